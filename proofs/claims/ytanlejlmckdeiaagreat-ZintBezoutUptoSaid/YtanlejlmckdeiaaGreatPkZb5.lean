/- The contract of the reference's Bezout. Conditions: at most 2^20 limbs each. -/
import Derived.Test.YtanlejlmckdeiaaGreatPkZb4
import Derived.Test.YtanlejlmckdeiaaGreatPkZd32
namespace Go.Proofs.YtanlejlmckdeiaaGreat
open Go.RowKit

section
variable {w : World} {g g2 : Bool} {A A2 : Option Addr} {c c2 N : Nat} {xs ys : List Nat} {z y : Int}
set_option maxHeartbeats 12800000 in
theorem rbezout_nought (h : Zh w g A c xs z N) (h2 : Zh w g2 A2 c2 ys 0 N) (hN : N ≤ 1048576) (hN1 : 1 ≤ N) :
    Calls Tryz.prog 40 #[.agg #[.bool g, .slice A xs.length c], .agg #[.bool g2, .slice A2 ys.length c2]] w fun e w' => ZBZ w w' (z.natAbs : Int) z.sign 0 e := by
  obtain ⟨G, hG⟩ : ∃ v : Int, v = (z.natAbs : Int) := ⟨_, rfl⟩
  obtain ⟨sg, hsg⟩ : ∃ s, s = z.sign := ⟨_, rfl⟩
  have GC : Hid (∀ W (_ : Below w.heap.size w W), Calls Tryz.prog 62 #[.agg #[.bool g, .slice A xs.length c], .agg #[.bool g2, .slice A2 ys.length c2]] W fun e w' => ZOut W w' G e) := fun W hW => by have h9 := (h.next hW).rgcd (h2.next hW) (by omega) (by omega); rwa [Int.gcd_zero_right, ← hG] at h9
  have SB : Hid (∀ W (_ : Below w.heap.size w W), Calls Tryz.prog 16 #[.agg #[.bool g2, .slice A2 ys.length c2]] W fun e w' => e = .returned (.int .i64 0) ∧ Below W.heap.size W w') := fun W hW => (h2.next hW).rsign (by omega)
  have SA : Hid (∀ W (_ : Below w.heap.size w W), Calls Tryz.prog 16 #[.agg #[.bool g, .slice A xs.length c]] W fun e w' => e = .returned (.int .i64 sg) ∧ Below W.heap.size W w') := fun W hW => by rw [hsg]; exact (h.next hW).rsign (by omega)
  have OF : Hid (∀ W, Calls Tryz.prog 42 #[.int .i64 sg] W fun e w' => ZOut W w' sg e) := fun W => by rw [hsg]; exact rzof_any _ (sign_range z).1 (sign_range z).2 W
  have LG : Hid (G.natAbs < 4294967296 ^ N) := by show _ < _; rw [hG, Int.natAbs_natCast]; exact h.lt
  have LS : Hid (sg.natAbs < 4294967296 ^ 1) := by show _ < _; rcases sign_cases z with ⟨a, b⟩ | ⟨a, b⟩ | ⟨a, b⟩ <;> rw [hsg, b] <;> decide
  rw [← hG, ← hsg]
  clear h h2 hG hsg
  go_enter Tryz.func40, Tryz.ntmps40
  go_wp2_with fail
  obtain ⟨w0, hw0⟩ : ∃ w0, w0 = ((((w.alloc (.cells #[.bool g, .slice A xs.length c] 25)).alloc (.cells #[.bool g2, .slice A2 ys.length c2] 25)).alloc (.cells #[.bool false, .slice none 0 0] 25)).alloc (.cells #[.bool false, .slice none 0 0] 25)).alloc (.cells #[.bool false, .slice none 0 0] 25) := ⟨_, rfl⟩
  obtain ⟨b0, b1, b2, b3, b4, k0⟩ := blk_five w _ _ _ _ _ _ _ _ _ _ hw0
  rw [← hw0]
  clear hw0
  have f0 : Bz5 w [.bool g, .slice A xs.length c] [.bool g2, .slice A2 ys.length c2] w0 := ⟨b0, b1, b2, b3, b4, k0⟩
  clear b0 b1 b2 b3 b4 k0
  obtain ⟨p0, p1, _, _⟩ := f0.1.two
  obtain ⟨q0, q1, _, _⟩ := f0.2.1.two
  go_wp2_with fail
  refine (GC.out _ f0.2.2.2.2.2).mono ?_
  rintro e w1 ⟨zg, Ag, cg, rfl, hzg, hrg, hb1⟩
  go_upto_region 2 with (fail)
  obtain ⟨v1, hv1⟩ : ∃ v, v = w1.alloc (.cells #[.bool (isNeg G), .slice Ag zg.length cg] 25) := ⟨_, rfl⟩
  rw [← hv1]
  have bg : Blk v1 w1.heap.size 25 [.bool (isNeg G), .slice Ag zg.length cg] := by rw [hv1]; exact blk_one _ _ _
  have i1 : Below w1.heap.size w1 v1 := by rw [hv1]; exact bel_one _ _
  obtain ⟨gg, hg⟩ : ∃ g, g = w1.heap.size := ⟨_, rfl⟩
  rw [← hg] at bg ⊢
  have j1 := bst hb1 i1 (Nat.le_refl _)
  have f1 := f0.next j1
  have og : w.heap.size + 1 + 1 + 1 + 1 < gg := by have := f0.2.2.2.2.1.lt; have := hb1.size; omega
  have RG := Lib.hid ((hrg.mono f0.2.2.2.2.2.size).below i1 (Nat.le_refl _))
  have BG := Lib.hid bg
  have NG := Lib.hid hzg
  clear p0 p1 q0 q1 GC hv1 bg i1 hg j1 hb1 hrg hzg f0
  obtain ⟨q0, q1, _, _⟩ := f1.2.1.two
  go_wp2_with fail
  refine (SB.out _ f1.2.2.2.2.2).mono ?_
  rintro e v2 ⟨rfl, hb2⟩
  have f2 := f1.next hb2
  replace BG := Lib.hid (BG.out.below hb2 BG.out.lt)
  replace RG := Lib.hid (RG.out.below hb2 (Nat.le_refl _))
  have BA := Lib.hid f2.1
  have BC := Lib.hid f2.2.2.1
  have BD := Lib.hid f2.2.2.2.1
  have BE := Lib.hid f2.2.2.2.2.1
  have KK := Lib.hid f2.2.2.2.2.2
  obtain ⟨t0, t1, t2, t3⟩ := BC.out.two
  obtain ⟨u0, u1, u2, u3⟩ := BD.out.two
  obtain ⟨x0, x1, x2, x3⟩ := BE.out.two
  replace SA : Hid (∀ W (_ : Below v2.heap.size v2 W), Calls Tryz.prog 16 #[.agg #[.bool g, .slice A xs.length c]] W fun e w' => e = .returned (.int .i64 sg) ∧ Below W.heap.size W w') := fun W hW => SA.out W (bst KK.out hW (Nat.le_refl _))
  have s2 := KK.out.size
  clear q0 q1 f1 f2 hb2 SB
  obtain ⟨p0, p1, _, _⟩ := BA.out.two
  obtain ⟨q0, q1, _, _⟩ := BG.out.two
  have m1 : w.heap.size + 1 + 1 ≠ w.heap.size + 1 + 1 + 1 := by omega
  have m2 : w.heap.size + 1 + 1 ≠ w.heap.size + 1 + 1 + 1 + 1 := by omega
  have m3 : w.heap.size + 1 + 1 + 1 ≠ w.heap.size + 1 + 1 + 1 + 1 := by omega
  have m4 := Ne.symm m1
  have m5 := Ne.symm m2
  have m6 := Ne.symm m3
  have h90 : w.heap.size + 1 + 1 ≠ gg := by omega
  have h91 : w.heap.size + 1 + 1 + 1 ≠ gg := by omega
  have h92 : w.heap.size + 1 + 1 + 1 + 1 ≠ gg := by omega
  have h93 : w.heap.size + 1 + 1 ≠ w.heap.size := by omega
  have h94 : w.heap.size + 1 + 1 + 1 ≠ w.heap.size := by omega
  have h95 : w.heap.size + 1 + 1 + 1 + 1 ≠ w.heap.size := by omega
  have h89 := Ne.symm h93
  have h88 := Ne.symm h94
  have h87 := Ne.symm h95
  go_upto_region 3 with (fail)
  go_region_held3 (fun W => W.cell? ⟨gg, 0, none⟩ = some (.bool (isNeg G)) ∧ W.cell? ⟨gg, 1, none⟩ = some (.slice Ag zg.length cg) ∧ W.cell? ⟨w.heap.size, 0, none⟩ = some (.bool g) ∧ W.cell? ⟨w.heap.size, 1, none⟩ = some (.slice A xs.length c)) (go_keep) (first
    | (go_at_call 16; (with_reducible refine (SA.out _ (by repeat (first | exact Below.refl _ _ | exact js | exact jo | apply bdw | (refine bdn ?_ _) | (refine bal ?_ (Nat.le_refl _) _)))).mono ?_); rintro e ws ⟨rfl, hbs⟩; have js : Below v2.heap.size v2 ws := bst (by repeat (first | exact Below.refl _ _ | exact js | exact jo | apply bdw | (refine bdn ?_ _) | (refine bal ?_ (Nat.le_refl _) _))) hbs (Nat.le_refl _); obtain ⟨x0s, y0s, _, _⟩ := (BG.out.below js BG.out.lt).two; obtain ⟨x1s, y1s, _, _⟩ := (BA.out.below js BA.out.lt).two; obtain ⟨x2s, y2s, u2s, v2s⟩ := (BC.out.below js BC.out.lt).two; obtain ⟨x3s, y3s, u3s, v3s⟩ := (BD.out.below js BD.out.lt).two; obtain ⟨x4s, y4s, u4s, v4s⟩ := (BE.out.below js BE.out.lt).two)
    | (go_at_call 42; (with_reducible refine (OF.out _).mono ?_); rintro e wo ⟨zo, Ao, co, rfl, hzo, hro, hbo⟩; have jo : Below v2.heap.size v2 wo := bst (by repeat (first | exact Below.refl _ _ | exact js | exact jo | apply bdw | (refine bdn ?_ _) | (refine bal ?_ (Nat.le_refl _) _))) hbo (Nat.le_refl _); obtain ⟨x0o, y0o, _, _⟩ := (BG.out.below jo BG.out.lt).two; obtain ⟨x1o, y1o, _, _⟩ := (BA.out.below jo BA.out.lt).two; obtain ⟨x2o, y2o, u2o, v2o⟩ := (BC.out.below jo BC.out.lt).two; obtain ⟨x3o, y3o, u3o, v3o⟩ := (BD.out.below jo BD.out.lt).two; obtain ⟨x4o, y4o, u4o, v4o⟩ := (BE.out.below jo BE.out.lt).two))
  all_goals
    go_wp2_with fail
    have ss := Nat.le_trans s2 js.size
    have F := vr_three (BC.out.below jo BC.out.lt) (BD.out.below jo BD.out.lt) (BE.out.below jo BE.out.lt) m1 m2 m3 NG.out (RG.out.below jo (Nat.le_refl _)) (num32_len NG.out (Nat.le_refl _) LG.out) hzo (hro.mono ss) (num32_len hzo (Nat.le_refl _) LS.out) (vs := []) (v := 0) (Num.zero_ _) Res.none_ (Nat.le_refl 0) rfl
    exact zzz_ret (fun e w' h => h) (bsc6 (bst KK.out jo (Nat.le_refl _)) (by omega) (by omega) (by omega)) F.1 F.2.1 F.2.2 rfl rfl rfl rfl rfl
end
end Go.Proofs.YtanlejlmckdeiaaGreat
