/- The contract of the reference's Make. -/
import Derived.Test.YtbcphifjcaobfaaGreatDoorPkRp31
namespace Go.Proofs.YtbcphifjcaobfaaGreatDoor
open Go.RowKit
section
variable {w : World} {g g2 : Bool} {A A2 : Option Addr} {c c2 K : Nat} {xs ys : List Nat} {z y : Int}
set_option maxHeartbeats 12800000 in
theorem rmake_any (h : Zh w g A c xs z K) (h2 : Zh w g2 A2 c2 ys y K) (hK : K ≤ 33554431) (hy : y ≠ 0) : Calls Tryz.prog 72 #[.agg #[.bool g, .slice A xs.length c], .agg #[.bool g2, .slice A2 ys.length c2]] w fun e w' => ROut w w' (lowN z y) (lowD z y) e := by
 obtain ⟨b0, b1, b2⟩ := blk_zzr w (.bool g) (.slice A xs.length c) (.bool g2) (.slice A2 ys.length c2) (.bool false) (.slice none 0 0) (.bool false) (.slice none 0 0)
 have k0 := bel_three w (.cells #[.bool g, .slice A xs.length c] 25) (.cells #[.bool g2, .slice A2 ys.length c2] 25) (.cells #[.bool false, .slice none 0 0, .bool false, .slice none 0 0] 27)
 unfold lowN lowD lowG
 obtain ⟨N, hN⟩ : ∃ N, N = upN z y := ⟨_, rfl⟩
 obtain ⟨D, hDD⟩ : ∃ D, D = upD y := ⟨_, rfl⟩
 have HD : Hid (D ≠ 0) := by show _ ≠ _; rw [hDD]; unfold upD; omega
 rw [← hN, ← hDD]
 obtain ⟨cg, hcg⟩ : ∃ v, v = Int.gcd D N := ⟨_, rfl⟩
 rw [← hcg]
 obtain ⟨nn, hnn⟩ : ∃ v, v = Int.tdiv N cg := ⟨_, rfl⟩
 obtain ⟨dd, hdd⟩ : ∃ v, v = Int.tdiv D cg := ⟨_, rfl⟩
 rw [← hnn, ← hdd]
 have Hcg : Hid (cg = Int.gcd D N) := hcg
 have Hnn : Hid (nn = Int.tdiv N cg) := hnn
 have Hdd : Hid (dd = Int.tdiv D cg) := hdd
 clear hcg hnn hdd
 have SG : Hid (∀ W (_ : Below w.heap.size w W), Calls Tryz.prog 71 #[.agg #[.bool g2, .slice A2 ys.length c2]] W fun e w' => e = .returned (.int .i64 y.sign) ∧ Below W.heap.size W w') := fun W hW => (h2.next hW).rsign (by omega)
 obtain ⟨sg, hsg⟩ : ∃ v, v = y.sign := ⟨_, rfl⟩
 rw [← hsg] at SG
 obtain ⟨w0, hw0⟩ : ∃ v, v = ((w.alloc (.cells #[.bool g, .slice A xs.length c] 25)).alloc (.cells #[.bool g2, .slice A2 ys.length c2] 25)).alloc (.cells #[.bool false, .slice none 0 0, .bool false, .slice none 0 0] 27) := ⟨_, rfl⟩
 rw [← hw0] at b0 b1 b2 k0
 obtain ⟨p0, p1, _, _⟩ := b0.two
 obtain ⟨q0, q1, _, _⟩ := b1.two
 by_cases hneg : y < 0
 ·have t1 : decide (sg < 0) = true := decide_eq_true (by rw [hsg]; exact Int.sign_neg_iff.2 hneg)
  have eN : N = -z := by rw [hN]; unfold upN; rw [if_pos hneg]
  have eD : D = -y := by rw [hDD]; unfold upD; omega
  have hNl : N.natAbs < 4294967296 ^ K := by rw [eN, Int.natAbs_neg]; exact h.lt
  have hDl : D.natAbs < 4294967296 ^ K := by rw [eD, Int.natAbs_neg]; exact h2.lt
  have NA : Hid (∀ W (_ : Below w.heap.size w W), Calls Tryz.prog 86 #[.agg #[.bool g, .slice A xs.length c]] W fun e w' => ZOut W w' N e) := fun W hW => by rw [eN]; exact (h.next hW).rneg (by omega)
  have NB : Hid (∀ W (_ : Below w.heap.size w W), Calls Tryz.prog 86 #[.agg #[.bool g2, .slice A2 ys.length c2]] W fun e w' => ZOut W w' D e) := fun W hW => by rw [eD]; exact (h2.next hW).rneg (by omega)
  clear hN hDD eN eD hneg hy hsg h h2
  go_enter Tryz.func72, Tryz.ntmps72
  go_upto_region 1 with fail
  rw [← hw0]
  clear hw0
  go_wp2_with fail
  refine (SG.out _ k0).mono ?_
  rintro e w1 ⟨rfl, hb1⟩
  have K1 := hi9 (bst k0 hb1 nl9)
  have B0 := hi9 (b0.below hb1 b0.lt)
  have B1 := hi9 (b1.below hb1 b1.lt)
  have B2 := hi9 (b2.below hb1 b2.lt)
  clear p0 p1 q0 q1 b0 b1 b2 k0 hb1 SG
  go_upto_region 2 with fail
  obtain ⟨p0, p1, f0, f1⟩ := B0.out.two
  obtain ⟨q0, q1, f2, f3⟩ := B1.out.two
  go_cut [14, 16] (fun _ _ W => ∃ (zs : List Nat) (Aa : Option Addr) (ca : Nat) (zs2 : List Nat) (Ab : Option Addr) (cb : Nat), Blk W w.heap.size 25 [.bool (isNeg N), .slice Aa zs.length ca] ∧ Blk W (w.heap.size + 1) 25 [.bool (isNeg D), .slice Ab zs2.length cb] ∧ Blk W (w.heap.size + 1 + 1) 27 [.bool false, .slice none 0 0, .bool false, .slice none 0 0] ∧ Num 4294967296 zs N.natAbs ∧ Num 4294967296 zs2 D.natAbs ∧ Res W w.heap.size 50 Aa ca (u32s zs) ∧ Res W w.heap.size 50 Ab cb (u32s zs2) ∧ Below w.heap.size w W)
  case first =>
   refine region_held_tail (fun W => W.cell? ⟨w.heap.size, 0, none⟩ = some (.bool g) ∧ W.cell? ⟨w.heap.size, 1, none⟩ = some (.slice A xs.length c) ∧ W.cell? ⟨w.heap.size + 1, 0, none⟩ = some (.bool g2) ∧ W.cell? ⟨w.heap.size + 1, 1, none⟩ = some (.slice A2 ys.length c2)) 4 (by kernel_rfl) (by kernel_rfl) ?hSt1 (fun hHeld => ?_)
   case hSt1 => (try dsimp only); go_keep
   refine HeadW.take (i := 0) (v := ?v0t1) rfl (by kernel_rfl) (by decide) (by kernel_rfl) (by kernel_rfl) (fun _ _ _ h => h) (Or.inl ⟨by rfl, ?hy0t1⟩) (by assumption) ?rest0t1
   case hy0t1 => intro w hSw; (try dsimp only at hSw); (try simp only [List.getElem_toArray, List.getElem_cons_zero]); go_simp; (try with_reducible rfl)
   (try simp only [List.getElem_toArray, List.getElem_cons_zero, Act.put, List.setIfInBounds_toArray, List.set_cons_zero, List.set_cons_succ])
   refine HeadW.take (i := 2) (v := ?v2t1) rfl (by kernel_rfl) (by decide) (by kernel_rfl) (by kernel_rfl) (fun _ _ _ h => h) (Or.inl ⟨by rfl, ?hy2t1⟩) (by assumption) ?rest2t1
   case hy2t1 => intro w hSw; (try dsimp only at hSw); (try simp only [List.getElem_toArray, List.getElem_cons_succ, List.getElem_cons_zero]); go_simp; (try with_reducible rfl)
   (try simp only [List.getElem_toArray, List.getElem_cons_succ, List.getElem_cons_zero, Act.put, List.setIfInBounds_toArray, List.set_cons_zero, List.set_cons_succ])
   refine HeadW.one (i := 1) (by kernel_rfl) (by decide) rfl (fun K hK => ?_)
   go_simp
   (go_at_call 86; (with_reducible refine (NA.out _ (bst K1.out (by repeat (first | exact br9 | exact ja | exact jb | apply bdw | (refine bdn ?_ _) | (refine bal ?_ nl9 _))) nl9)).mono ?_); rintro e wa ⟨za, Aa, ca, rfl, hza, hra, hba⟩; have ja : Below w1.heap.size w1 wa := bst (by repeat (first | exact br9 | exact ja | exact jb | apply bdw | (refine bdn ?_ _) | (refine bal ?_ nl9 _))) hba nl9; obtain ⟨x0a, y0a, u0a, v0a⟩ := (B0.out.below ja B0.out.lt).two; obtain ⟨x1a, y1a, u1a, v1a⟩ := (B1.out.below ja B1.out.lt).two)
   (try go_wp2_with fail)
   refine hK.out _ _ ?hS1t1 (fun hHeld2 => ?_)
   case hS1t1 => (try dsimp only); go_keep
   clear hK K hHeld
   have hHeld := hHeld2
   clear hHeld2
   (try simp only [List.getElem_toArray, List.getElem_cons_succ, List.getElem_cons_zero, Act.put, List.setIfInBounds_toArray, List.set_cons_zero, List.set_cons_succ])
   refine HeadW.one (i := 3) (by kernel_rfl) (by decide) rfl (fun K hK => ?_)
   go_simp
   (go_at_call 86; (with_reducible refine (NB.out _ (bst K1.out (by repeat (first | exact br9 | exact ja | exact jb | apply bdw | (refine bdn ?_ _) | (refine bal ?_ nl9 _))) nl9)).mono ?_); rintro e wb ⟨zb, Ab, cb, rfl, hzb, hrb, hbb⟩; have jb : Below w1.heap.size w1 wb := bst (by repeat (first | exact br9 | exact ja | exact jb | apply bdw | (refine bdn ?_ _) | (refine bal ?_ nl9 _))) hbb nl9; obtain ⟨x0b, y0b, u0b, v0b⟩ := (B0.out.below jb B0.out.lt).two; obtain ⟨x1b, y1b, u1b, v1b⟩ := (B1.out.below jb B1.out.lt).two)
   (try go_wp2_with fail)
   refine hK.out _ _ ?hS3t1 (fun hHeld2 => ?_)
   case hS3t1 => (try dsimp only); go_keep
   clear hK K hHeld
   have hHeld := hHeld2
   clear hHeld2
   (try simp only [List.getElem_toArray, List.getElem_cons_succ, List.getElem_cons_zero, Act.put, List.setIfInBounds_toArray, List.set_cons_zero, List.set_cons_succ])
   refine HeadW.done (by kernel_rfl) ?_
   simp only [List.drop_succ_cons, List.drop_zero]
   all_goals
    go_wp2_with fail
    go_meet
    have n9 : w.heap.size ≠ w.heap.size + 1 := by omega
    have sa9 : w.heap.size ≤ wa.heap.size := Nat.le_trans K1.out.size ja.size
    have a0 := B0.out.below jb B0.out.lt
    have a1 := B1.out.below jb B1.out.lt
    have a2 := B2.out.below jb B2.out.lt
    have ra9 := (hra.mono K1.out.size).below hbb nl9
    have rb9 := hrb.mono sa9
    have c0 := blk_pair a0 (.bool (isNeg N)) (.slice Aa za.length ca)
    have c1 := (a1.far (p := ⟨w.heap.size, 0, none⟩) (Ne.symm n9) (.bool (isNeg N))).far (p := ⟨w.heap.size, 1, none⟩) (Ne.symm n9) (.slice Aa za.length ca)
    exact ⟨za, Aa, ca, zb, Ab, cb, (c0.far (p := ⟨w.heap.size + 1, 0, none⟩) n9 _).far (p := ⟨w.heap.size + 1, 1, none⟩) n9 _, blk_pair c1 _ _, (((a2.far (p := ⟨w.heap.size, 0, none⟩) (by show _ ≠ _; simp <;> omega) _).far (p := ⟨w.heap.size, 1, none⟩) (by show _ ≠ _; simp <;> omega) _).far (p := ⟨w.heap.size + 1, 0, none⟩) (by show _ ≠ _; simp <;> omega) _).far (p := ⟨w.heap.size + 1, 1, none⟩) (by show _ ≠ _; simp <;> omega) _, hza, hzb, res_var2 (res_var2 ra9 a0 _ _) c1 _ _, res_var2 (res_var2 rb9 a0 _ _) c1 _ _, (by first | exact bsc4 (g := w.heap.size) (h := w.heap.size + 1) (bst K1.out jb nl9) nl9 (by omega) | exact bdw (bsc4 (g := w.heap.size) (h := w.heap.size + 1) (bst K1.out jb nl9) nl9 (by omega)))⟩
  case rest =>
   obtain ⟨qs, Aq, cq0, rs0, Ar, cr0, bN, bD, bR, nq, nr, rq, rr, kv⟩ := hcut
   obtain ⟨v, rfl⟩ : ∃ v : World, v = wc := ⟨_, rfl⟩
   have zN : Zh v (isNeg N) Aq cq0 qs N K := Zh.of nq rq hNl
   have zD : Zh v (isNeg D) Ar cr0 rs0 D K := Zh.of nr rr hDl
   clear NA NB K1 B0 B1 B2 p0 p1 q0 q1 f0 f1 f2 f3 nq nr rq rr hNl hDl
   have hD9 : D ≠ 0 := HD.out
   obtain ⟨gp, e3, e4⟩ := low_parts (N := N) hD9
   have hgl : Int.gcd D N < 4294967296 ^ K := Nat.lt_of_le_of_lt (Nat.le_of_dvd (by omega) (Nat.gcd_dvd_left ..)) zD.lt
   have hgc : Int.gcd N D = Int.gcd D N := Int.gcd_comm ..
   have GC : Hid (Calls Tryz.prog 109 #[.agg #[.bool (isNeg N), .slice Aq qs.length cq0], .agg #[.bool (isNeg D), .slice Ar rs0.length cr0]] v fun e w' => ZOut v w' (Int.gcd D N : Nat) e) := by
    have h9 := zN.rgcd zD (by omega) (by omega)
    rw [hgc] at h9
    exact h9
   have hcg := Hcg.out
   rw [← hcg] at gp e3 e4 hgl GC
   have hc0 : (cg : Int) ≠ 0 := by omega
   have EXN : Hid (∀ (zg : List Nat) (Ag : Option Addr) (cq Bg : Nat) (wg W : World), Num 4294967296 zg (cg : Int).natAbs → Res wg Bg 50 Ag cq (u32s zg) → Below wg.heap.size wg W → Below v.heap.size v W → Calls Tryz.prog 110 #[.agg #[.bool (isNeg N), .slice Aq qs.length cq0], .agg #[.bool (isNeg (cg : Nat)), .slice Ag zg.length cq]] W fun e w' => ZB W w' (Int.tdiv N cg) true e) := fun zg Ag cq Bg wg W n1 r1 h1 hW =>
    (zN.next hW).rexact_yes ((Zh.of (K := K) (z := (cg : Nat)) n1 r1 (by rw [Int.natAbs_natCast]; exact hgl)).next h1) hc0 (by omega) e3
   have EXD : Hid (∀ (zg : List Nat) (Ag : Option Addr) (cq Bg : Nat) (wg W : World), Num 4294967296 zg (cg : Int).natAbs → Res wg Bg 50 Ag cq (u32s zg) → Below wg.heap.size wg W → Below v.heap.size v W → Calls Tryz.prog 110 #[.agg #[.bool (isNeg D), .slice Ar rs0.length cr0], .agg #[.bool (isNeg (cg : Nat)), .slice Ag zg.length cq]] W fun e w' => ZB W w' (Int.tdiv D cg) true e) := fun zg Ag cq Bg wg W n1 r1 h1 hW =>
    (zD.next hW).rexact_yes ((Zh.of (K := K) (z := (cg : Nat)) n1 r1 (by rw [Int.natAbs_natCast]; exact hgl)).next h1) hc0 (by omega) e4
   rw [← Hnn.out] at EXN
   rw [← Hdd.out] at EXD
   clear gp e3 e4 hgl hgc hcg hc0 zN zD hD9 HD
   obtain ⟨p0, p1, _, _⟩ := bN.two
   obtain ⟨q0, q1, _, _⟩ := bD.two
   go_wp2_with fail
   refine GC.out.mono ?_
   rintro e w3 ⟨zg, Ag, cq, rfl, ng, rg, hb3⟩
   replace bN := (bN.below hb3 bN.lt).heapAlloc (.cells #[.bool (isNeg (cg : Nat)), .slice Ag zg.length cq] 25)
   replace bD := (bD.below hb3 bD.lt).heapAlloc (.cells #[.bool (isNeg (cg : Nat)), .slice Ag zg.length cq] 25)
   replace bR := (bR.below hb3 bR.lt).heapAlloc (.cells #[.bool (isNeg (cg : Nat)), .slice Ag zg.length cq] 25)
   have bg := blk_one w3 (.bool (isNeg (cg : Nat))) (.slice Ag zg.length cq)
   have j4 := bel_one w3 (.cells #[.bool (isNeg (cg : Nat)), .slice Ag zg.length cq] 25)
   clear p0 p1 q0 q1 GC
   go_upto_region 4 with fail
   obtain ⟨w4, hw4⟩ : ∃ v, v = w3.alloc (.cells #[.bool (isNeg (cg : Nat)), .slice Ag zg.length cq] 25) := ⟨_, rfl⟩
   rw [← hw4] at bg j4 bN bD bR ⊢
   have i4 := bst hb3 j4 nl9
   obtain ⟨g5, hg5⟩ : ∃ g, g = w3.heap.size := ⟨_, rfl⟩
   rw [← hg5] at bg ⊢
   clear hw4 hg5 hb3
   obtain ⟨p0, p1, _, _⟩ := bN.two
   obtain ⟨s0, s1, _, _⟩ := bg.two
   go_wp2_with fail
   refine (EXN.out zg Ag cq _ w3 w4 ng rg j4 i4).mono ?_
   rintro e w5 ⟨zs, As, cs, rfl, ns, rs, hb5⟩
   have i5 := bst i4 hb5 nl9
   have j5 := bst j4 hb5 nl9
   replace bD := (bD.below hb5 bD.lt).heapAlloc (.cells #[.bool (isNeg nn), .slice As zs.length cs] 25)
   replace bR := (bR.below hb5 bR.lt).heapAlloc (.cells #[.bool (isNeg nn), .slice As zs.length cs] 25)
   replace bg := (bg.below hb5 bg.lt).heapAlloc (.cells #[.bool (isNeg nn), .slice As zs.length cs] 25)
   have bs := blk_one w5 (.bool (isNeg nn)) (.slice As zs.length cs)
   have l6 := bel_one w5 (.cells #[.bool (isNeg nn), .slice As zs.length cs] 25)
   have z4 := i4.size
   clear p0 p1 s0 s1 EXN hb5 i4 j4 bN
   go_upto_region 5 with fail
   obtain ⟨w6, hw6⟩ : ∃ v, v = w5.alloc (.cells #[.bool (isNeg nn), .slice As zs.length cs] 25) := ⟨_, rfl⟩
   rw [← hw6] at bg bs l6 bD bR ⊢
   have i6 := bst i5 l6 nl9
   have j6 := bst j5 l6 nl9
   obtain ⟨g6, hg6⟩ : ∃ g, g = w5.heap.size := ⟨_, rfl⟩
   rw [← hg6] at bs ⊢
   clear hw6 hg6 j5
   obtain ⟨q0, q1, _, _⟩ := bD.two
   obtain ⟨s0, s1, _, _⟩ := bg.two
   go_wp2_with fail
   refine (EXD.out zg Ag cq _ w3 w6 ng rg j6 i6).mono ?_
   rintro e w7 ⟨zd, Ad, cd, rfl, nd, rd, hb7⟩
   have i7 := bst i6 hb7 nl9
   have l7 := bst l6 hb7 nl9
   replace bR := (bR.below hb7 bR.lt).heapAlloc (.cells #[.bool (isNeg dd), .slice Ad zd.length cd] 25)
   replace bs := (bs.below hb7 bs.lt).heapAlloc (.cells #[.bool (isNeg dd), .slice Ad zd.length cd] 25)
   have bd := blk_one w7 (.bool (isNeg dd)) (.slice Ad zd.length cd)
   have m8 := bel_one w7 (.cells #[.bool (isNeg dd), .slice Ad zd.length cd] 25)
   have z6 := i6.size
   clear q0 q1 s0 s1 EXD hb7 i6 j6 bD bg
   go_upto_region 6 with fail
   obtain ⟨w8, hw8⟩ : ∃ v, v = w7.alloc (.cells #[.bool (isNeg dd), .slice Ad zd.length cd] 25) := ⟨_, rfl⟩
   rw [← hw8] at bs bd m8 bR ⊢
   have s5 := i5.size
   have s7 := i7.size
   have s0v := kv.size
   have kw : Below w.heap.size w w8 := bst kv (bst i7 m8 nl9) nl9
   have r1 : Res w8 w.heap.size 50 As cs (u32s zs) := (rs.below (bst l7 m8 nl9) nl9).mono (by omega)
   have r2 : Res w8 w.heap.size 50 Ad cd (u32s zd) := (rd.below m8 nl9).mono (by omega)
   obtain ⟨g8, hg8⟩ : ∃ g, g = w7.heap.size := ⟨_, rfl⟩
   rw [← hg8] at bd ⊢
   clear hw8 hg8 i5 i7 l7 m8 s5 s7 s0v rs rd rg
   obtain ⟨p0, p1, _, _⟩ := bs.two
   obtain ⟨q0, q1, _, _⟩ := bd.two
   obtain ⟨_, _, _, _, f0, f1, f2, f3⟩ := bR.four
   go_wp2_with fail
   exact rret kw bR (by omega) ns nd r1 r2 rfl rfl rfl rfl rfl
 ·have t1 : decide (sg < 0) = false := decide_eq_false (fun e => hneg (Int.sign_neg_iff.1 (by rw [← hsg]; exact e)))
  have eN : N = z := by rw [hN]; unfold upN; rw [if_neg hneg]
  have eD : D = y := by rw [hDD]; unfold upD; omega
  clear hN hDD
  subst eN eD
  go_enter Tryz.func72, Tryz.ntmps72
  go_upto_region 1 with fail
  rw [← hw0]
  clear hw0
  go_wp2_with fail
  refine (SG.out _ k0).mono ?_
  rintro e v ⟨rfl, hb1⟩
  have kv := bst k0 hb1 nl9
  have bN := b0.below hb1 b0.lt
  have bD := b1.below hb1 b1.lt
  have bR := b2.below hb1 b2.lt
  have zN := h.next kv
  have zD := h2.next kv
  clear p0 p1 q0 q1 b0 b1 b2 k0 hb1 SG hsg h h2
  go_upto_region 3 with fail
  have hD9 : D ≠ 0 := HD.out
  obtain ⟨gp, e3, e4⟩ := low_parts (N := N) hD9
  have hgl : Int.gcd D N < 4294967296 ^ K := Nat.lt_of_le_of_lt (Nat.le_of_dvd (by omega) (Nat.gcd_dvd_left ..)) zD.lt
  have hgc : Int.gcd N D = Int.gcd D N := Int.gcd_comm ..
  have GC : Hid (Calls Tryz.prog 109 #[.agg #[.bool g, .slice A xs.length c], .agg #[.bool g2, .slice A2 ys.length c2]] v fun e w' => ZOut v w' (Int.gcd D N : Nat) e) := by
   have h9 := zN.rgcd zD (by omega) (by omega)
   rw [hgc] at h9
   exact h9
  have hcg := Hcg.out
  rw [← hcg] at gp e3 e4 hgl GC
  have hc0 : (cg : Int) ≠ 0 := by omega
  have EXN : Hid (∀ (zg : List Nat) (Ag : Option Addr) (cq Bg : Nat) (wg W : World), Num 4294967296 zg (cg : Int).natAbs → Res wg Bg 50 Ag cq (u32s zg) → Below wg.heap.size wg W → Below v.heap.size v W → Calls Tryz.prog 110 #[.agg #[.bool g, .slice A xs.length c], .agg #[.bool (isNeg (cg : Nat)), .slice Ag zg.length cq]] W fun e w' => ZB W w' (Int.tdiv N cg) true e) := fun zg Ag cq Bg wg W n1 r1 h1 hW =>
   (zN.next hW).rexact_yes ((Zh.of (K := K) (z := (cg : Nat)) n1 r1 (by rw [Int.natAbs_natCast]; exact hgl)).next h1) hc0 (by omega) e3
  have EXD : Hid (∀ (zg : List Nat) (Ag : Option Addr) (cq Bg : Nat) (wg W : World), Num 4294967296 zg (cg : Int).natAbs → Res wg Bg 50 Ag cq (u32s zg) → Below wg.heap.size wg W → Below v.heap.size v W → Calls Tryz.prog 110 #[.agg #[.bool g2, .slice A2 ys.length c2], .agg #[.bool (isNeg (cg : Nat)), .slice Ag zg.length cq]] W fun e w' => ZB W w' (Int.tdiv D cg) true e) := fun zg Ag cq Bg wg W n1 r1 h1 hW =>
   (zD.next hW).rexact_yes ((Zh.of (K := K) (z := (cg : Nat)) n1 r1 (by rw [Int.natAbs_natCast]; exact hgl)).next h1) hc0 (by omega) e4
  rw [← Hnn.out] at EXN
  rw [← Hdd.out] at EXD
  clear gp e3 e4 hgl hgc hcg hc0 zN zD hD9 HD
  obtain ⟨p0, p1, _, _⟩ := bN.two
  obtain ⟨q0, q1, _, _⟩ := bD.two
  go_wp2_with fail
  refine GC.out.mono ?_
  rintro e w3 ⟨zg, Ag, cq, rfl, ng, rg, hb3⟩
  replace bN := (bN.below hb3 bN.lt).heapAlloc (.cells #[.bool (isNeg (cg : Nat)), .slice Ag zg.length cq] 25)
  replace bD := (bD.below hb3 bD.lt).heapAlloc (.cells #[.bool (isNeg (cg : Nat)), .slice Ag zg.length cq] 25)
  replace bR := (bR.below hb3 bR.lt).heapAlloc (.cells #[.bool (isNeg (cg : Nat)), .slice Ag zg.length cq] 25)
  have bg := blk_one w3 (.bool (isNeg (cg : Nat))) (.slice Ag zg.length cq)
  have j4 := bel_one w3 (.cells #[.bool (isNeg (cg : Nat)), .slice Ag zg.length cq] 25)
  clear p0 p1 q0 q1 GC
  go_upto_region 4 with fail
  obtain ⟨w4, hw4⟩ : ∃ v, v = w3.alloc (.cells #[.bool (isNeg (cg : Nat)), .slice Ag zg.length cq] 25) := ⟨_, rfl⟩
  rw [← hw4] at bg j4 bN bD bR ⊢
  have i4 := bst hb3 j4 nl9
  obtain ⟨g5, hg5⟩ : ∃ g, g = w3.heap.size := ⟨_, rfl⟩
  rw [← hg5] at bg ⊢
  clear hw4 hg5 hb3
  obtain ⟨p0, p1, _, _⟩ := bN.two
  obtain ⟨s0, s1, _, _⟩ := bg.two
  go_wp2_with fail
  refine (EXN.out zg Ag cq _ w3 w4 ng rg j4 i4).mono ?_
  rintro e w5 ⟨zs, As, cs, rfl, ns, rs, hb5⟩
  have i5 := bst i4 hb5 nl9
  have j5 := bst j4 hb5 nl9
  replace bD := (bD.below hb5 bD.lt).heapAlloc (.cells #[.bool (isNeg nn), .slice As zs.length cs] 25)
  replace bR := (bR.below hb5 bR.lt).heapAlloc (.cells #[.bool (isNeg nn), .slice As zs.length cs] 25)
  replace bg := (bg.below hb5 bg.lt).heapAlloc (.cells #[.bool (isNeg nn), .slice As zs.length cs] 25)
  have bs := blk_one w5 (.bool (isNeg nn)) (.slice As zs.length cs)
  have l6 := bel_one w5 (.cells #[.bool (isNeg nn), .slice As zs.length cs] 25)
  have z4 := i4.size
  clear p0 p1 s0 s1 EXN hb5 i4 j4 bN
  go_upto_region 5 with fail
  obtain ⟨w6, hw6⟩ : ∃ v, v = w5.alloc (.cells #[.bool (isNeg nn), .slice As zs.length cs] 25) := ⟨_, rfl⟩
  rw [← hw6] at bg bs l6 bD bR ⊢
  have i6 := bst i5 l6 nl9
  have j6 := bst j5 l6 nl9
  obtain ⟨g6, hg6⟩ : ∃ g, g = w5.heap.size := ⟨_, rfl⟩
  rw [← hg6] at bs ⊢
  clear hw6 hg6 j5
  obtain ⟨q0, q1, _, _⟩ := bD.two
  obtain ⟨s0, s1, _, _⟩ := bg.two
  go_wp2_with fail
  refine (EXD.out zg Ag cq _ w3 w6 ng rg j6 i6).mono ?_
  rintro e w7 ⟨zd, Ad, cd, rfl, nd, rd, hb7⟩
  have i7 := bst i6 hb7 nl9
  have l7 := bst l6 hb7 nl9
  replace bR := (bR.below hb7 bR.lt).heapAlloc (.cells #[.bool (isNeg dd), .slice Ad zd.length cd] 25)
  replace bs := (bs.below hb7 bs.lt).heapAlloc (.cells #[.bool (isNeg dd), .slice Ad zd.length cd] 25)
  have bd := blk_one w7 (.bool (isNeg dd)) (.slice Ad zd.length cd)
  have m8 := bel_one w7 (.cells #[.bool (isNeg dd), .slice Ad zd.length cd] 25)
  have z6 := i6.size
  clear q0 q1 s0 s1 EXD hb7 i6 j6 bD bg
  go_upto_region 6 with fail
  obtain ⟨w8, hw8⟩ : ∃ v, v = w7.alloc (.cells #[.bool (isNeg dd), .slice Ad zd.length cd] 25) := ⟨_, rfl⟩
  rw [← hw8] at bs bd m8 bR ⊢
  have s5 := i5.size
  have s7 := i7.size
  have s0v := kv.size
  have kw : Below w.heap.size w w8 := bst kv (bst i7 m8 nl9) nl9
  have r1 : Res w8 w.heap.size 50 As cs (u32s zs) := (rs.below (bst l7 m8 nl9) nl9).mono (by omega)
  have r2 : Res w8 w.heap.size 50 Ad cd (u32s zd) := (rd.below m8 nl9).mono (by omega)
  obtain ⟨g8, hg8⟩ : ∃ g, g = w7.heap.size := ⟨_, rfl⟩
  rw [← hg8] at bd ⊢
  clear hw8 hg8 i5 i7 l7 m8 s5 s7 s0v rs rd rg
  obtain ⟨p0, p1, _, _⟩ := bs.two
  obtain ⟨q0, q1, _, _⟩ := bd.two
  obtain ⟨_, _, _, _, f0, f1, f2, f3⟩ := bR.four
  go_wp2_with fail
  exact rret kw bR (by omega) ns nd r1 r2 rfl rfl rfl rfl rfl
end
end Go.Proofs.YtbcphifjcaobfaaGreatDoor
