/- The contract of the reference's OfRat. Conditions: the sizes; a prime; a denominator that is not 0. -/
import Derived.Test.YtcfalkcceanldaaGreatDoorPkPo47
namespace Go.Proofs.YtcfalkcceanldaaGreatDoor
open Go.RowKit

section
variable {w : World} {g g2 : Bool} {A A2 : Option Addr} {c c2 K : Nat} {xs ys : List Nat} {z y : Int}
set_option maxHeartbeats 3200000 in
theorem rofrat_zero (p : Nat) (hp : Pr p) (hlt : p < 4294967296) (h : Zh w g A c xs z K) (h2 : Zh w g2 A2 c2 ys y K) (hK : K ≤ 33554431) (hy : y ≠ 0) (h0 : ofB p z y = 0) :
    Calls Tryz.prog 11 #[.agg #[.bool g, .slice A xs.length c, .bool g2, .slice A2 ys.length c2], .int .u32 (p : Int)] w fun e w' => e = .returned (.tuple #[.int .u32 0, .bool false]) ∧ Below w.heap.size w w' := by
  have hp2 := hp.1
  have k0 := bel_one w (.cells #[.bool g, .slice A xs.length c, .bool g2, .slice A2 ys.length c2] 27)
  have b0 : Blk (w.alloc (.cells #[.bool g, .slice A xs.length c, .bool g2, .slice A2 ys.length c2] 27)) w.heap.size 27 [.bool g, .slice A xs.length c, .bool g2, .slice A2 ys.length c2] := Blk.new_ rfl
  obtain ⟨w0, hw0⟩ : ∃ v, v = w.alloc (.cells #[.bool g, .slice A xs.length c, .bool g2, .slice A2 ys.length c2] 27) := ⟨_, rfl⟩
  rw [← hw0] at k0 b0
  obtain ⟨gp, e1, e2, e3, e4⟩ := gcd_parts (z := z) hy
  have hgl := gcd_lt (z := z) hy h2.lt
  have hn1 := Nat.lt_of_le_of_lt (tdiv_le z (Int.gcd z y)) h.lt
  have hn2 := Nat.lt_of_le_of_lt (tdiv_le y (Int.gcd z y)) h2.lt
  obtain ⟨cg, hcg⟩ : ∃ v, v = Int.gcd z y := ⟨_, rfl⟩
  rw [← hcg] at gp e1 e2 e3 e4 hgl hn1 hn2
  obtain ⟨zn, hzn⟩ : ∃ v, v = Int.tdiv z cg := ⟨_, rfl⟩
  obtain ⟨yn, hyn⟩ : ∃ v, v = Int.tdiv y cg := ⟨_, rfl⟩
  rw [← hzn] at hn1
  rw [← hyn] at hn2
  have oA : ofA p z y = zmd p zn := by unfold ofA; rw [← hcg, ← hzn]
  have oB : ofB p z y = zmd p yn := by unfold ofB; rw [← hcg, ← hyn]
  have hc0 : (cg : Int) ≠ 0 := by omega
  have GC : Hid (∀ W (_ : Below w.heap.size w W), Calls Tryz.prog 24 #[.agg #[.bool g, .slice A xs.length c], .agg #[.bool g2, .slice A2 ys.length c2]] W fun e w' => ZOut W w' (cg : Nat) e) := fun W hW => by
    rw [hcg]
    exact (h.next hW).rgcd (h2.next hW) (by omega) (by omega)
  have EXN : Hid (∀ (zg : List Nat) (Ag : Option Addr) (cq Bg : Nat) (wg W : World), Num 4294967296 zg (cg : Int).natAbs → Res wg Bg 28 Ag cq (u32s zg) → Below wg.heap.size wg W → Below w.heap.size w W → Calls Tryz.prog 25 #[.agg #[.bool g, .slice A xs.length c], .agg #[.bool (isNeg (cg : Nat)), .slice Ag zg.length cq]] W fun e w' => ZB W w' zn true e) := fun zg Ag cq Bg wg W n1 r1 h1 hW => by
    rw [hzn]
    exact (h.next hW).rexact_yes ((Zh.of (K := K) (z := (cg : Nat)) n1 r1 (by rw [Int.natAbs_natCast]; exact hgl)).next h1) hc0 (by omega) e3
  have EXD : Hid (∀ (zg : List Nat) (Ag : Option Addr) (cq Bg : Nat) (wg W : World), Num 4294967296 zg (cg : Int).natAbs → Res wg Bg 28 Ag cq (u32s zg) → Below wg.heap.size wg W → Below w.heap.size w W → Calls Tryz.prog 25 #[.agg #[.bool g2, .slice A2 ys.length c2], .agg #[.bool (isNeg (cg : Nat)), .slice Ag zg.length cq]] W fun e w' => ZB W w' yn true e) := fun zg Ag cq Bg wg W n1 r1 h1 hW => by
    rw [hyn]
    exact (h2.next hW).rexact_yes ((Zh.of (K := K) (z := (cg : Nat)) n1 r1 (by rw [Int.natAbs_natCast]; exact hgl)).next h1) hc0 (by omega) e4
  have RN : Hid (∀ (zs : List Nat) (As : Option Addr) (cs B9 : Nat) (wo W : World), Num 4294967296 zs zn.natAbs → Res wo B9 28 As cs (u32s zs) → Below wo.heap.size wo W → Calls Tryz.prog 9 #[.agg #[.bool (isNeg zn), .slice As zs.length cs], .int .u32 (p : Int)] W fun e w' => e = .returned (.int .u32 (zmd p zn : Nat)) ∧ Below W.heap.size W w') := fun zs As cs B9 wo W n1 r1 h1 => rzof_mod ((Zh.of (K := K) n1 r1 hn1).next h1) (by omega) p (by omega) hlt
  have RD : Hid (∀ (zs : List Nat) (As : Option Addr) (cs B9 : Nat) (wo W : World), Num 4294967296 zs yn.natAbs → Res wo B9 28 As cs (u32s zs) → Below wo.heap.size wo W → Calls Tryz.prog 9 #[.agg #[.bool (isNeg yn), .slice As zs.length cs], .int .u32 (p : Int)] W fun e w' => e = .returned (.int .u32 (zmd p yn : Nat)) ∧ Below W.heap.size W w') := fun zs As cs B9 wo W n1 r1 h1 => rzof_mod ((Zh.of (K := K) n1 r1 hn2).next h1) (by omega) p (by omega) hlt
  rw [oB] at h0
  rw [h0] at RD
  clear h h2 hy hp hp2 gp e1 e2 e3 e4 hgl hn1 hn2 hcg hzn hyn oA oB hc0 h0 RN
  obtain ⟨p0, p1, p2, p3, _, _, _, _⟩ := b0.four
  go_enter Tryz.func11, Tryz.ntmps11
  go_wp2_with fail
  rw [← hw0]
  clear hw0
  go_wp2_with fail
  refine (GC.out _ k0).mono ?_
  rintro e w1 ⟨zg, Ag, cq, rfl, ng, rg, hb1⟩
  have k1 := bst k0 hb1 (Nat.le_refl _)
  have b1 := b0.below hb1 b0.lt
  have b2 := b1.heapAlloc (.cells #[.bool (isNeg (cg : Nat)), .slice Ag zg.length cq] 25)
  have bg := blk_one w1 (.bool (isNeg (cg : Nat))) (.slice Ag zg.length cq)
  have i2 := bel_one w1 (.cells #[.bool (isNeg (cg : Nat)), .slice Ag zg.length cq] 25)
  clear p0 p1 p2 p3 GC b0 hb1 b1
  go_upto_region 2 with fail
  obtain ⟨w2, hw2⟩ : ∃ v, v = w1.alloc (.cells #[.bool (isNeg (cg : Nat)), .slice Ag zg.length cq] 25) := ⟨_, rfl⟩
  rw [← hw2] at b2 bg i2 ⊢
  obtain ⟨gg, hgg⟩ : ∃ v, v = w1.heap.size := ⟨_, rfl⟩
  rw [← hgg] at bg ⊢
  have k2 := bst k1 i2 (Nat.le_refl _)
  clear hw2 hgg k1
  obtain ⟨p0, p1, p2, p3, _, _, _, _⟩ := b2.four
  obtain ⟨q0, q1, _, _⟩ := bg.two
  go_wp2_with fail
  refine (EXN.out zg Ag cq _ w1 w2 ng rg i2 k2).mono ?_
  rintro e w3 ⟨zs, As, cs, rfl, ns, rs, hb3⟩
  have i3 := bst i2 hb3 (Nat.le_refl _)
  have k3 := bst k2 hb3 (Nat.le_refl _)
  have b3 := (b2.below hb3 b2.lt).heapAlloc (.cells #[.bool (isNeg zn), .slice As zs.length cs] 25)
  have bg3 := (bg.below hb3 bg.lt).heapAlloc (.cells #[.bool (isNeg zn), .slice As zs.length cs] 25)
  have bs := blk_one w3 (.bool (isNeg zn)) (.slice As zs.length cs)
  have j4 := bel_one w3 (.cells #[.bool (isNeg zn), .slice As zs.length cs] 25)
  clear p0 p1 p2 p3 q0 q1 EXN b2 bg hb3 i2 k2
  go_upto_region 3 with fail
  obtain ⟨w4, hw4⟩ : ∃ v, v = w3.alloc (.cells #[.bool (isNeg zn), .slice As zs.length cs] 25) := ⟨_, rfl⟩
  rw [← hw4] at b3 bg3 bs j4 ⊢
  obtain ⟨gs, hgs⟩ : ∃ v, v = w3.heap.size := ⟨_, rfl⟩
  rw [← hgs] at bs ⊢
  have i4 := bst i3 j4 (Nat.le_refl _)
  have k4 := bst k3 j4 (Nat.le_refl _)
  clear hw4 hgs k3 i3
  obtain ⟨p0, p1, p2, p3, _, _, _, _⟩ := b3.four
  obtain ⟨q0, q1, _, _⟩ := bg3.two
  go_wp2_with fail
  refine (EXD.out zg Ag cq _ w1 w4 ng rg i4 k4).mono ?_
  rintro e w5 ⟨zd, Ad, cd, rfl, nd, rd, hb5⟩
  have k5 := bst k4 hb5 (Nat.le_refl _)
  have l5 := bst j4 hb5 (Nat.le_refl _)
  have bs5 := (bs.below hb5 bs.lt).heapAlloc (.cells #[.bool (isNeg yn), .slice Ad zd.length cd] 25)
  have bd := blk_one w5 (.bool (isNeg yn)) (.slice Ad zd.length cd)
  have j6 := bel_one w5 (.cells #[.bool (isNeg yn), .slice Ad zd.length cd] 25)
  clear p0 p1 p2 p3 q0 q1 EXD b3 bg3 hb5 i4 k4 bs
  go_upto_region 4 with fail
  obtain ⟨w6, hw6⟩ : ∃ v, v = w5.alloc (.cells #[.bool (isNeg yn), .slice Ad zd.length cd] 25) := ⟨_, rfl⟩
  rw [← hw6] at bs5 bd j6 ⊢
  obtain ⟨gd, hgd⟩ : ∃ v, v = w5.heap.size := ⟨_, rfl⟩
  rw [← hgd] at bd ⊢
  have k6 := bst k5 j6 (Nat.le_refl _)
  have l6 := bst l5 j6 (Nat.le_refl _)
  clear hw6 hgd k5 l5
  obtain ⟨q0, q1, _, _⟩ := bd.two
  go_wp2_with fail
  refine (RD.out zd Ad cd _ w5 w6 nd rd j6).mono ?_
  rintro e w7 ⟨rfl, hb7⟩
  have k7 := bst k6 hb7 (Nat.le_refl _)
  have l7 := bst l6 hb7 (Nat.le_refl _)
  have bs7 := bs5.below hb7 bs5.lt
  clear q0 q1 RD hb7 k6 l6 bd bs5
  obtain ⟨q0, q1, _, _⟩ := bs7.two
  go_wp2_with fail
  go_ret2
  exact ⟨rfl, k7⟩
set_option maxHeartbeats 3200000 in
theorem rofrat_val (p : Nat) (hp : Pr p) (hlt : p < 4294967296) (h : Zh w g A c xs z K) (h2 : Zh w g2 A2 c2 ys y K) (hK : K ≤ 33554431) (hy : y ≠ 0) (h0 : ofB p z y ≠ 0) :
    Calls Tryz.prog 11 #[.agg #[.bool g, .slice A xs.length c, .bool g2, .slice A2 ys.length c2], .int .u32 (p : Int)] w fun e w' => e = .returned (.tuple #[.int .u32 (ofQ p z y : Nat), .bool true]) ∧ Below w.heap.size w w' := by
  have hp2 := hp.1
  have k0 := bel_one w (.cells #[.bool g, .slice A xs.length c, .bool g2, .slice A2 ys.length c2] 27)
  have b0 : Blk (w.alloc (.cells #[.bool g, .slice A xs.length c, .bool g2, .slice A2 ys.length c2] 27)) w.heap.size 27 [.bool g, .slice A xs.length c, .bool g2, .slice A2 ys.length c2] := Blk.new_ rfl
  obtain ⟨w0, hw0⟩ : ∃ v, v = w.alloc (.cells #[.bool g, .slice A xs.length c, .bool g2, .slice A2 ys.length c2] 27) := ⟨_, rfl⟩
  rw [← hw0] at k0 b0
  obtain ⟨gp, e1, e2, e3, e4⟩ := gcd_parts (z := z) hy
  have hgl := gcd_lt (z := z) hy h2.lt
  have hn1 := Nat.lt_of_le_of_lt (tdiv_le z (Int.gcd z y)) h.lt
  have hn2 := Nat.lt_of_le_of_lt (tdiv_le y (Int.gcd z y)) h2.lt
  obtain ⟨cg, hcg⟩ : ∃ v, v = Int.gcd z y := ⟨_, rfl⟩
  rw [← hcg] at gp e1 e2 e3 e4 hgl hn1 hn2
  obtain ⟨zn, hzn⟩ : ∃ v, v = Int.tdiv z cg := ⟨_, rfl⟩
  obtain ⟨yn, hyn⟩ : ∃ v, v = Int.tdiv y cg := ⟨_, rfl⟩
  rw [← hzn] at hn1
  rw [← hyn] at hn2
  have oA : ofA p z y = zmd p zn := by unfold ofA; rw [← hcg, ← hzn]
  have oB : ofB p z y = zmd p yn := by unfold ofB; rw [← hcg, ← hyn]
  have hc0 : (cg : Int) ≠ 0 := by omega
  have GC : Hid (∀ W (_ : Below w.heap.size w W), Calls Tryz.prog 24 #[.agg #[.bool g, .slice A xs.length c], .agg #[.bool g2, .slice A2 ys.length c2]] W fun e w' => ZOut W w' (cg : Nat) e) := fun W hW => by
    rw [hcg]
    exact (h.next hW).rgcd (h2.next hW) (by omega) (by omega)
  have EXN : Hid (∀ (zg : List Nat) (Ag : Option Addr) (cq Bg : Nat) (wg W : World), Num 4294967296 zg (cg : Int).natAbs → Res wg Bg 28 Ag cq (u32s zg) → Below wg.heap.size wg W → Below w.heap.size w W → Calls Tryz.prog 25 #[.agg #[.bool g, .slice A xs.length c], .agg #[.bool (isNeg (cg : Nat)), .slice Ag zg.length cq]] W fun e w' => ZB W w' zn true e) := fun zg Ag cq Bg wg W n1 r1 h1 hW => by
    rw [hzn]
    exact (h.next hW).rexact_yes ((Zh.of (K := K) (z := (cg : Nat)) n1 r1 (by rw [Int.natAbs_natCast]; exact hgl)).next h1) hc0 (by omega) e3
  have EXD : Hid (∀ (zg : List Nat) (Ag : Option Addr) (cq Bg : Nat) (wg W : World), Num 4294967296 zg (cg : Int).natAbs → Res wg Bg 28 Ag cq (u32s zg) → Below wg.heap.size wg W → Below w.heap.size w W → Calls Tryz.prog 25 #[.agg #[.bool g2, .slice A2 ys.length c2], .agg #[.bool (isNeg (cg : Nat)), .slice Ag zg.length cq]] W fun e w' => ZB W w' yn true e) := fun zg Ag cq Bg wg W n1 r1 h1 hW => by
    rw [hyn]
    exact (h2.next hW).rexact_yes ((Zh.of (K := K) (z := (cg : Nat)) n1 r1 (by rw [Int.natAbs_natCast]; exact hgl)).next h1) hc0 (by omega) e4
  have RN : Hid (∀ (zs : List Nat) (As : Option Addr) (cs B9 : Nat) (wo W : World), Num 4294967296 zs zn.natAbs → Res wo B9 28 As cs (u32s zs) → Below wo.heap.size wo W → Calls Tryz.prog 9 #[.agg #[.bool (isNeg zn), .slice As zs.length cs], .int .u32 (p : Int)] W fun e w' => e = .returned (.int .u32 (zmd p zn : Nat)) ∧ Below W.heap.size W w') := fun zs As cs B9 wo W n1 r1 h1 => rzof_mod ((Zh.of (K := K) n1 r1 hn1).next h1) (by omega) p (by omega) hlt
  have RD : Hid (∀ (zs : List Nat) (As : Option Addr) (cs B9 : Nat) (wo W : World), Num 4294967296 zs yn.natAbs → Res wo B9 28 As cs (u32s zs) → Below wo.heap.size wo W → Calls Tryz.prog 9 #[.agg #[.bool (isNeg yn), .slice As zs.length cs], .int .u32 (p : Int)] W fun e w' => e = .returned (.int .u32 (zmd p yn : Nat)) ∧ Below W.heap.size W w') := fun zs As cs B9 wo W n1 r1 h1 => rzof_mod ((Zh.of (K := K) n1 r1 hn2).next h1) (by omega) p (by omega) hlt
  have hq : ofQ p z y = zmd p zn * (zmd p yn ^ (p - 2) % p) % p := by unfold ofQ; rw [oA, oB]
  have hAl := zmd_lt (p := p) (by omega) zn
  have hBl := zmd_lt (p := p) (by omega) yn
  rw [oB] at h0
  rw [hq]
  obtain ⟨av, hav⟩ : ∃ v, v = zmd p zn := ⟨_, rfl⟩
  obtain ⟨bv, hbv⟩ : ∃ v, v = zmd p yn := ⟨_, rfl⟩
  rw [← hav] at RN hAl ⊢
  rw [← hbv] at RD h0 hBl ⊢
  have hIl : bv ^ (p - 2) % p < p := Nat.mod_lt _ (by omega)
  have RI := Lib.hid (fun W => rinv_any bv p (by omega) hlt (by omega) W)
  obtain ⟨iv, hiv⟩ : ∃ v, v = bv ^ (p - 2) % p := ⟨_, rfl⟩
  rw [← hiv] at RI hIl ⊢
  have RM := Lib.hid (fun W => prmul_any av iv p (by omega) (by omega) hlt (by omega) W)
  obtain ⟨qv, hqv⟩ : ∃ v, v = av * iv % p := ⟨_, rfl⟩
  rw [← hqv] at RM ⊢
  have t0 : ((bv : Int) == 0) = false := beq_eq_false_iff_ne.2 (by omega)
  clear h h2 hy hp hp2 gp e1 e2 e3 e4 hgl hn1 hn2 hcg hzn hyn oA oB hc0 hq hAl hBl h0 hav hbv hIl hiv hqv
  obtain ⟨p0, p1, p2, p3, _, _, _, _⟩ := b0.four
  go_enter Tryz.func11, Tryz.ntmps11
  go_wp2_with fail
  rw [← hw0]
  clear hw0
  go_wp2_with fail
  refine (GC.out _ k0).mono ?_
  rintro e w1 ⟨zg, Ag, cq, rfl, ng, rg, hb1⟩
  have k1 := bst k0 hb1 (Nat.le_refl _)
  have b1 := b0.below hb1 b0.lt
  have b2 := b1.heapAlloc (.cells #[.bool (isNeg (cg : Nat)), .slice Ag zg.length cq] 25)
  have bg := blk_one w1 (.bool (isNeg (cg : Nat))) (.slice Ag zg.length cq)
  have i2 := bel_one w1 (.cells #[.bool (isNeg (cg : Nat)), .slice Ag zg.length cq] 25)
  clear p0 p1 p2 p3 GC b0 hb1 b1
  go_upto_region 2 with fail
  obtain ⟨w2, hw2⟩ : ∃ v, v = w1.alloc (.cells #[.bool (isNeg (cg : Nat)), .slice Ag zg.length cq] 25) := ⟨_, rfl⟩
  rw [← hw2] at b2 bg i2 ⊢
  obtain ⟨gg, hgg⟩ : ∃ v, v = w1.heap.size := ⟨_, rfl⟩
  rw [← hgg] at bg ⊢
  have k2 := bst k1 i2 (Nat.le_refl _)
  clear hw2 hgg k1
  obtain ⟨p0, p1, p2, p3, _, _, _, _⟩ := b2.four
  obtain ⟨q0, q1, _, _⟩ := bg.two
  go_wp2_with fail
  refine (EXN.out zg Ag cq _ w1 w2 ng rg i2 k2).mono ?_
  rintro e w3 ⟨zs, As, cs, rfl, ns, rs, hb3⟩
  have i3 := bst i2 hb3 (Nat.le_refl _)
  have k3 := bst k2 hb3 (Nat.le_refl _)
  have b3 := (b2.below hb3 b2.lt).heapAlloc (.cells #[.bool (isNeg zn), .slice As zs.length cs] 25)
  have bg3 := (bg.below hb3 bg.lt).heapAlloc (.cells #[.bool (isNeg zn), .slice As zs.length cs] 25)
  have bs := blk_one w3 (.bool (isNeg zn)) (.slice As zs.length cs)
  have j4 := bel_one w3 (.cells #[.bool (isNeg zn), .slice As zs.length cs] 25)
  clear p0 p1 p2 p3 q0 q1 EXN b2 bg hb3 i2 k2
  go_upto_region 3 with fail
  obtain ⟨w4, hw4⟩ : ∃ v, v = w3.alloc (.cells #[.bool (isNeg zn), .slice As zs.length cs] 25) := ⟨_, rfl⟩
  rw [← hw4] at b3 bg3 bs j4 ⊢
  obtain ⟨gs, hgs⟩ : ∃ v, v = w3.heap.size := ⟨_, rfl⟩
  rw [← hgs] at bs ⊢
  have i4 := bst i3 j4 (Nat.le_refl _)
  have k4 := bst k3 j4 (Nat.le_refl _)
  clear hw4 hgs k3 i3
  obtain ⟨p0, p1, p2, p3, _, _, _, _⟩ := b3.four
  obtain ⟨q0, q1, _, _⟩ := bg3.two
  go_wp2_with fail
  refine (EXD.out zg Ag cq _ w1 w4 ng rg i4 k4).mono ?_
  rintro e w5 ⟨zd, Ad, cd, rfl, nd, rd, hb5⟩
  have k5 := bst k4 hb5 (Nat.le_refl _)
  have l5 := bst j4 hb5 (Nat.le_refl _)
  have bs5 := (bs.below hb5 bs.lt).heapAlloc (.cells #[.bool (isNeg yn), .slice Ad zd.length cd] 25)
  have bd := blk_one w5 (.bool (isNeg yn)) (.slice Ad zd.length cd)
  have j6 := bel_one w5 (.cells #[.bool (isNeg yn), .slice Ad zd.length cd] 25)
  clear p0 p1 p2 p3 q0 q1 EXD b3 bg3 hb5 i4 k4 bs
  go_upto_region 4 with fail
  obtain ⟨w6, hw6⟩ : ∃ v, v = w5.alloc (.cells #[.bool (isNeg yn), .slice Ad zd.length cd] 25) := ⟨_, rfl⟩
  rw [← hw6] at bs5 bd j6 ⊢
  obtain ⟨gd, hgd⟩ : ∃ v, v = w5.heap.size := ⟨_, rfl⟩
  rw [← hgd] at bd ⊢
  have k6 := bst k5 j6 (Nat.le_refl _)
  have l6 := bst l5 j6 (Nat.le_refl _)
  clear hw6 hgd k5 l5
  obtain ⟨q0, q1, _, _⟩ := bd.two
  go_wp2_with fail
  refine (RD.out zd Ad cd _ w5 w6 nd rd j6).mono ?_
  rintro e w7 ⟨rfl, hb7⟩
  have k7 := bst k6 hb7 (Nat.le_refl _)
  have l7 := bst l6 hb7 (Nat.le_refl _)
  have bs7 := bs5.below hb7 bs5.lt
  clear q0 q1 RD hb7 k6 l6 bd bs5
  obtain ⟨q0, q1, _, _⟩ := bs7.two
  go_wp2_with fail
  refine (RN.out zs As cs _ w3 w7 ns rs l7).mono ?_
  rintro e w8 ⟨rfl, hb8⟩
  have k8 := bst k7 hb8 (Nat.le_refl _)
  clear q0 q1 RN hb8
  go_wp2_with fail
  refine (RI.out _).mono ?_
  rintro e w9 ⟨rfl, rfl⟩
  go_wp2_with fail
  refine (RM.out _).mono ?_
  rintro e w10 ⟨rfl, rfl⟩
  go_wp2_with fail
  go_ret2
  exact ⟨rfl, k8⟩
end
end Go.Proofs.YtcfalkcceanldaaGreatDoor
