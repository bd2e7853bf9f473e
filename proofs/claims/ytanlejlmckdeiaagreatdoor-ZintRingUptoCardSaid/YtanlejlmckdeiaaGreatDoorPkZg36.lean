/- zint.Bezout at a second number that is not 0. Conditions: at most 2^20 limbs each. -/
import Derived.Test.YtanlejlmckdeiaaGreatDoorPkZg35
import Derived.Test.YtanlejlmckdeiaaGreatDoorPkZg34
namespace Go.Proofs.YtanlejlmckdeiaaGreatDoor
open Go.RowKit

/-- What does not change while Bezout runs: its arguments and its results' cells. -/
def Bz5 (w : World) (av bv : List Value) (W : World) : Prop := Blk W w.heap.size 28 av ∧ Blk W (w.heap.size + 1) 28 bv ∧ Blk W (w.heap.size + 1 + 1) 28 [.bool false, .slice none 0 0] ∧ Blk W (w.heap.size + 1 + 1 + 1) 28 [.bool false, .slice none 0 0] ∧ Blk W (w.heap.size + 1 + 1 + 1 + 1) 28 [.bool false, .slice none 0 0] ∧ Below w.heap.size w W
theorem Bz5.next {w W W2 : World} {av bv : List Value} (f : Bz5 w av bv W) (h : Below W.heap.size W W2) : Bz5 w av bv W2 := by
  obtain ⟨a, b, c, d, e, k⟩ := f
  exact ⟨a.below h a.lt, b.below h b.lt, c.below h c.lt, d.below h d.lt, e.below h e.lt, bst k h (Nat.le_refl _)⟩
theorem Bz5.set4 {w W : World} {av bv : List Value} {g h : Nat} {u1 u2 u3 u4 : Value} (f : Bz5 w av bv W) (h1 : w.heap.size + 1 + 1 + 1 + 1 < g) (h2 : w.heap.size + 1 + 1 + 1 + 1 < h) : Bz5 w av bv ((((W.setCell ⟨g, 0, none⟩ u1).setCell ⟨g, 1, none⟩ u2).setCell ⟨h, 0, none⟩ u3).setCell ⟨h, 1, none⟩ u4) := by
  obtain ⟨a, b, c, d, e, k⟩ := f
  exact ⟨far4 a (by omega) (by omega), far4 b (by omega) (by omega), far4 c (by omega) (by omega), far4 d (by omega) (by omega), far4 e (by omega) (by omega), bsc4 k (by omega) (by omega)⟩
theorem Bz5.set2 {w W : World} {av bv : List Value} {g : Nat} {u1 u2 : Value} (f : Bz5 w av bv W) (h1 : w.heap.size + 1 + 1 + 1 + 1 < g) : Bz5 w av bv ((W.setCell ⟨g, 0, none⟩ u1).setCell ⟨g, 1, none⟩ u2) := by
  obtain ⟨a, b, c, d, e, k⟩ := f
  exact ⟨far2 a (by omega), far2 b (by omega), far2 c (by omega), far2 d (by omega), far2 e (by omega), bsc (bsc k (by omega) _) (by omega) _⟩
theorem Bz5.drew {w W : World} {av bv : List Value} (f : Bz5 w av bv W) (n : Nat) : Bz5 w av bv (W.drewN n) := by
  obtain ⟨a, b, c, d, e, k⟩ := f
  exact ⟨a.drewN n, b.drewN n, c.drewN n, d.drewN n, e.drewN n, bdn k n⟩
section
variable {w : World} {g g2 : Bool} {A A2 : Option Addr} {c c2 N : Nat} {xs ys : List Nat} {z y : Int}
set_option maxHeartbeats 25600000 in
theorem bezout_other (h : Zh w g A c xs z N) (h2 : Zh w g2 A2 c2 ys y N) (hy : y ≠ 0) (hN : N ≤ 1048576) (hN1 : 1 ≤ N) :
    Calls Tryz.prog 26 #[.agg #[.bool g, .slice A xs.length c], .agg #[.bool g2, .slice A2 ys.length c2]] w fun e w' => ∃ G X Y : Int, BezIs z y G X Y ∧ ZBZ w w' G X Y e := by
  have IZ : Hid (∀ W (_ : Below w.heap.size w W), Calls Tryz.prog 42 #[.agg #[.bool g2, .slice A2 ys.length c2]] W fun e w' => e = .returned (.bool false) ∧ Below W.heap.size W w') := fun W hW => by have h9 := (h2.next hW).isZero (by omega); rwa [decide_eq_false hy] at h9
  have HA := Lib.hid h
  have HB := Lib.hid h2
  have Hy := Lib.hid hy
  clear h h2 hy
  go_enter Tryz.func26, Tryz.ntmps26
  go_wp2_with fail
  obtain ⟨w0, hw0⟩ : ∃ w0, w0 = ((((w.alloc (.cells #[.bool g, .slice A xs.length c] 28)).alloc (.cells #[.bool g2, .slice A2 ys.length c2] 28)).alloc (.cells #[.bool false, .slice none 0 0] 28)).alloc (.cells #[.bool false, .slice none 0 0] 28)).alloc (.cells #[.bool false, .slice none 0 0] 28) := ⟨_, rfl⟩
  obtain ⟨b0, b1, b2, b3, b4, k0⟩ := blk_five w _ _ _ _ _ _ _ _ _ _ hw0
  rw [← hw0]
  clear hw0
  obtain ⟨q0, q1, _, _⟩ := b1.two
  go_wp2_with fail
  refine (IZ.out _ k0).mono ?_
  rintro e v1 ⟨rfl, hb1⟩
  have f1 : Bz5 w [.bool g, .slice A xs.length c] [.bool g2, .slice A2 ys.length c2] v1 := Bz5.next ⟨b0, b1, b2, b3, b4, k0⟩ hb1
  clear b0 b1 b2 b3 b4 q0 q1 k0 hb1 IZ
  have hA := HA.out.next f1.2.2.2.2.2
  have hB := HB.out.next f1.2.2.2.2.2
  have AA : Hid (∀ W (_ : Below v1.heap.size v1 W), Calls Tryz.prog 27 #[.agg #[.bool g, .slice A xs.length c]] W fun e w' => ZOut W w' (z.natAbs : Int) e) := fun W hW => (hA.next hW).abs (by omega)
  have AB : Hid (∀ W (_ : Below v1.heap.size v1 W), Calls Tryz.prog 27 #[.agg #[.bool g2, .slice A2 ys.length c2]] W fun e w' => ZOut W w' (y.natAbs : Int) e) := fun W hW => (hB.next hW).abs (by omega)
  have LA : Hid ((z.natAbs : Int).natAbs < 4294967296 ^ N) := by show _ < _; rw [Int.natAbs_natCast]; exact hA.lt
  have LB : Hid ((y.natAbs : Int).natAbs < 4294967296 ^ N) := by show _ < _; rw [Int.natAbs_natCast]; exact hB.lt
  obtain ⟨za9, hza9⟩ : ∃ v, v = (z.natAbs : Int) := ⟨_, rfl⟩
  obtain ⟨yb9, hyb9⟩ : ∃ v, v = (y.natAbs : Int) := ⟨_, rfl⟩
  rw [← hza9] at AA LA
  rw [← hyb9] at AB LB
  have HZ9 := Lib.hid hza9
  have HY9 := Lib.hid hyb9
  have F1 := Lib.hid f1
  have B0 := Lib.hid f1.1
  have B1 := Lib.hid f1.2.1
  have low0 : w.heap.size < v1.heap.size := f1.1.lt
  have low1 : w.heap.size + 1 < v1.heap.size := f1.2.1.lt
  have low4 : w.heap.size + 1 + 1 + 1 + 1 < v1.heap.size := f1.2.2.2.2.1.lt
  have s0 := f1.2.2.2.2.2.size
  clear f1 hA hB hza9 hyb9
  obtain ⟨p0, p1, _, _⟩ := B0.out.two
  obtain ⟨q0, q1, _, _⟩ := B1.out.two
  have n1 : w.heap.size ≠ v1.heap.size := by omega
  have n2 : w.heap.size + 1 ≠ v1.heap.size := by omega
  have n3 : w.heap.size ≠ v1.heap.size + 1 := by omega
  have n4 : v1.heap.size ≠ w.heap.size := by omega
  have n5 : v1.heap.size ≠ w.heap.size + 1 := by omega
  have n6 : v1.heap.size + 1 ≠ w.heap.size := by omega
  go_upto_region 3 with (fail)
  go_cut [7, 8] (fun v7 v8 W => ∃ g7 g8 Aa ca za Ab cb zb, v7 = .pointer (some ⟨g7, 0, none⟩) ∧ v8 = .pointer (some ⟨g8, 0, none⟩) ∧ Blk W g7 28 [.bool (isNeg za9), .slice Aa za.length ca] ∧ Blk W g8 28 [.bool (isNeg yb9), .slice Ab zb.length cb] ∧ Num 4294967296 za za9.natAbs ∧ Num 4294967296 zb yb9.natAbs ∧ Res W v1.heap.size 61 Aa ca (u32s za) ∧ Res W v1.heap.size 61 Ab cb (u32s zb) ∧ g7 ≠ g8 ∧ v1.heap.size ≤ g7 ∧ v1.heap.size ≤ g8 ∧ Below v1.heap.size v1 W)
  case first =>
    go_region_held3 (fun W => W.cell? ⟨w.heap.size, 0, none⟩ = some (.bool g) ∧ W.cell? ⟨w.heap.size, 1, none⟩ = some (.slice A xs.length c) ∧ W.cell? ⟨w.heap.size + 1, 0, none⟩ = some (.bool g2) ∧ W.cell? ⟨w.heap.size + 1, 1, none⟩ = some (.slice A2 ys.length c2)) (go_keep) (first
      | (go_at_call 27; (with_reducible refine (AA.out _ (by repeat (first | exact Below.refl _ _ | exact ja | exact jb | apply bdw | (refine bdn ?_ _) | (refine bal ?_ (Nat.le_refl _) _)))).mono ?_); rintro e wa ⟨za, Aa, ca, rfl, hza, hra, hba⟩; have ja : Below v1.heap.size v1 wa := bst (by repeat (first | exact Below.refl _ _ | exact ja | exact jb | apply bdw | (refine bdn ?_ _) | (refine bal ?_ (Nat.le_refl _) _))) hba (Nat.le_refl _); obtain ⟨x0a, y0a, u0a, v0a⟩ := (B0.out.below ja B0.out.lt).two; obtain ⟨xx0a, yy0a, uu0a, vv0a⟩ := two_al (B0.out.below ja B0.out.lt); obtain ⟨x1a, y1a, u1a, v1a⟩ := (B1.out.below ja B1.out.lt).two; obtain ⟨xx1a, yy1a, uu1a, vv1a⟩ := two_al (B1.out.below ja B1.out.lt); have m0a : w.heap.size < wa.heap.size := Nat.lt_of_lt_of_le low0 ja.size; have ma0a := Nat.ne_of_lt m0a; have mb0a := Nat.ne_of_gt m0a; have mc0a := Nat.ne_of_lt (Nat.lt_succ_of_lt m0a); have md0a := Nat.ne_of_gt (Nat.lt_succ_of_lt m0a); have m1a : w.heap.size + 1 < wa.heap.size := Nat.lt_of_lt_of_le low1 ja.size; have ma1a := Nat.ne_of_lt m1a; have mb1a := Nat.ne_of_gt m1a; have mc1a := Nat.ne_of_lt (Nat.lt_succ_of_lt m1a); have md1a := Nat.ne_of_gt (Nat.lt_succ_of_lt m1a); (first | (have bna0 := ((blk_one v1 (.bool false) (.slice none 0 0))).below hba (by simp)) | (have bna0 := ((blk_one v1 (.bool false) (.slice none 0 0)).drew).below hba (by simp)) | (have bna0 := ((blk_one v1 (.bool false) (.slice none 0 0)).drewN _).below hba (by simp)) | (have bna0 := (((blk_pair2 v1 (.bool false) (.slice none 0 0) (.bool false) (.slice none 0 0)).1)).below hba (by simp <;> omega); have bna1 := (((blk_pair2 v1 (.bool false) (.slice none 0 0) (.bool false) (.slice none 0 0)).2)).below hba (by simp)) | (have bna0 := (((blk_pair2 v1 (.bool false) (.slice none 0 0) (.bool false) (.slice none 0 0)).1).drew).below hba (by simp <;> omega); have bna1 := (((blk_pair2 v1 (.bool false) (.slice none 0 0) (.bool false) (.slice none 0 0)).2).drew).below hba (by simp)) | (have bna0 := (((blk_pair2 v1 (.bool false) (.slice none 0 0) (.bool false) (.slice none 0 0)).1).drewN _).below hba (by simp <;> omega); have bna1 := (((blk_pair2 v1 (.bool false) (.slice none 0 0) (.bool false) (.slice none 0 0)).2).drewN _).below hba (by simp)) | skip); (try (have q9 := bna0.two; obtain ⟨a0bna0, a1bna0, a2bna0, a3bna0⟩ := q9)); (try (have q9 := two_al bna0; obtain ⟨c0bna0, c1bna0, c2bna0, c3bna0⟩ := q9)); (try have d0bna0 := Nat.ne_of_lt bna0.lt); (try have d1bna0 := Nat.ne_of_gt bna0.lt); (try have d2bna0 := Nat.ne_of_lt (Nat.lt_succ_of_lt bna0.lt)); (try have d3bna0 := Nat.ne_of_gt (Nat.lt_succ_of_lt bna0.lt)); (try (have q9 := two_al2 bna0; obtain ⟨e0bna0, e1bna0, e2bna0, e3bna0⟩ := q9)); (try (have q9 := bna1.two; obtain ⟨a0bna1, a1bna1, a2bna1, a3bna1⟩ := q9)); (try (have q9 := two_al bna1; obtain ⟨c0bna1, c1bna1, c2bna1, c3bna1⟩ := q9)); (try have d0bna1 := Nat.ne_of_lt bna1.lt); (try have d1bna1 := Nat.ne_of_gt bna1.lt); (try have d2bna1 := Nat.ne_of_lt (Nat.lt_succ_of_lt bna1.lt)); (try have d3bna1 := Nat.ne_of_gt (Nat.lt_succ_of_lt bna1.lt)); (try (have q9 := two_al2 bna1; obtain ⟨e0bna1, e1bna1, e2bna1, e3bna1⟩ := q9)))
      | (go_at_call 27; (with_reducible refine (AB.out _ (by repeat (first | exact Below.refl _ _ | exact ja | exact jb | apply bdw | (refine bdn ?_ _) | (refine bal ?_ (Nat.le_refl _) _)))).mono ?_); rintro e wb ⟨zb, Ab, cb, rfl, hzb, hrb, hbb⟩; have jb : Below v1.heap.size v1 wb := bst (by repeat (first | exact Below.refl _ _ | exact ja | exact jb | apply bdw | (refine bdn ?_ _) | (refine bal ?_ (Nat.le_refl _) _))) hbb (Nat.le_refl _); obtain ⟨x0b, y0b, u0b, v0b⟩ := (B0.out.below jb B0.out.lt).two; obtain ⟨xx0b, yy0b, uu0b, vv0b⟩ := two_al (B0.out.below jb B0.out.lt); obtain ⟨x1b, y1b, u1b, v1b⟩ := (B1.out.below jb B1.out.lt).two; obtain ⟨xx1b, yy1b, uu1b, vv1b⟩ := two_al (B1.out.below jb B1.out.lt); have m0b : w.heap.size < wb.heap.size := Nat.lt_of_lt_of_le low0 jb.size; have ma0b := Nat.ne_of_lt m0b; have mb0b := Nat.ne_of_gt m0b; have mc0b := Nat.ne_of_lt (Nat.lt_succ_of_lt m0b); have md0b := Nat.ne_of_gt (Nat.lt_succ_of_lt m0b); have m1b : w.heap.size + 1 < wb.heap.size := Nat.lt_of_lt_of_le low1 jb.size; have ma1b := Nat.ne_of_lt m1b; have mb1b := Nat.ne_of_gt m1b; have mc1b := Nat.ne_of_lt (Nat.lt_succ_of_lt m1b); have md1b := Nat.ne_of_gt (Nat.lt_succ_of_lt m1b); (first | (have bnb0 := ((blk_one wa (.bool false) (.slice none 0 0))).below hbb (by simp)) | (have bnb0 := ((blk_one wa (.bool false) (.slice none 0 0)).drew).below hbb (by simp)) | (have bnb0 := ((blk_one wa (.bool false) (.slice none 0 0)).drewN _).below hbb (by simp)) | (have bnb0 := (((blk_pair2 wa (.bool false) (.slice none 0 0) (.bool false) (.slice none 0 0)).1)).below hbb (by simp <;> omega); have bnb1 := (((blk_pair2 wa (.bool false) (.slice none 0 0) (.bool false) (.slice none 0 0)).2)).below hbb (by simp)) | (have bnb0 := (((blk_pair2 wa (.bool false) (.slice none 0 0) (.bool false) (.slice none 0 0)).1).drew).below hbb (by simp <;> omega); have bnb1 := (((blk_pair2 wa (.bool false) (.slice none 0 0) (.bool false) (.slice none 0 0)).2).drew).below hbb (by simp)) | (have bnb0 := (((blk_pair2 wa (.bool false) (.slice none 0 0) (.bool false) (.slice none 0 0)).1).drewN _).below hbb (by simp <;> omega); have bnb1 := (((blk_pair2 wa (.bool false) (.slice none 0 0) (.bool false) (.slice none 0 0)).2).drewN _).below hbb (by simp)) | skip); (try have bna0b := bna0.below (bel_pre hbb (by repeat (first | exact Below.refl _ _ | exact hba | exact hbb | apply bdw | (refine bdn ?_ _) | (refine bal ?_ (Nat.le_refl _) _)))) bna0.lt); (try have bna1b := bna1.below (bel_pre hbb (by repeat (first | exact Below.refl _ _ | exact hba | exact hbb | apply bdw | (refine bdn ?_ _) | (refine bal ?_ (Nat.le_refl _) _)))) bna1.lt); (try (have q9 := bna0b.two; obtain ⟨a0bna0b, a1bna0b, a2bna0b, a3bna0b⟩ := q9)); (try (have q9 := two_al bna0b; obtain ⟨c0bna0b, c1bna0b, c2bna0b, c3bna0b⟩ := q9)); (try have d0bna0b := Nat.ne_of_lt bna0b.lt); (try have d1bna0b := Nat.ne_of_gt bna0b.lt); (try have d2bna0b := Nat.ne_of_lt (Nat.lt_succ_of_lt bna0b.lt)); (try have d3bna0b := Nat.ne_of_gt (Nat.lt_succ_of_lt bna0b.lt)); (try (have q9 := two_al2 bna0b; obtain ⟨e0bna0b, e1bna0b, e2bna0b, e3bna0b⟩ := q9)); (try (have q9 := bna1b.two; obtain ⟨a0bna1b, a1bna1b, a2bna1b, a3bna1b⟩ := q9)); (try (have q9 := two_al bna1b; obtain ⟨c0bna1b, c1bna1b, c2bna1b, c3bna1b⟩ := q9)); (try have d0bna1b := Nat.ne_of_lt bna1b.lt); (try have d1bna1b := Nat.ne_of_gt bna1b.lt); (try have d2bna1b := Nat.ne_of_lt (Nat.lt_succ_of_lt bna1b.lt)); (try have d3bna1b := Nat.ne_of_gt (Nat.lt_succ_of_lt bna1b.lt)); (try (have q9 := two_al2 bna1b; obtain ⟨e0bna1b, e1bna1b, e2bna1b, e3bna1b⟩ := q9)); (try (have q9 := bnb0.two; obtain ⟨a0bnb0, a1bnb0, a2bnb0, a3bnb0⟩ := q9)); (try (have q9 := two_al bnb0; obtain ⟨c0bnb0, c1bnb0, c2bnb0, c3bnb0⟩ := q9)); (try have d0bnb0 := Nat.ne_of_lt bnb0.lt); (try have d1bnb0 := Nat.ne_of_gt bnb0.lt); (try have d2bnb0 := Nat.ne_of_lt (Nat.lt_succ_of_lt bnb0.lt)); (try have d3bnb0 := Nat.ne_of_gt (Nat.lt_succ_of_lt bnb0.lt)); (try (have q9 := two_al2 bnb0; obtain ⟨e0bnb0, e1bnb0, e2bnb0, e3bnb0⟩ := q9)); (try (have q9 := bnb1.two; obtain ⟨a0bnb1, a1bnb1, a2bnb1, a3bnb1⟩ := q9)); (try (have q9 := two_al bnb1; obtain ⟨c0bnb1, c1bnb1, c2bnb1, c3bnb1⟩ := q9)); (try have d0bnb1 := Nat.ne_of_lt bnb1.lt); (try have d1bnb1 := Nat.ne_of_gt bnb1.lt); (try have d2bnb1 := Nat.ne_of_lt (Nat.lt_succ_of_lt bnb1.lt)); (try have d3bnb1 := Nat.ne_of_gt (Nat.lt_succ_of_lt bnb1.lt)); (try (have q9 := two_al2 bnb1; obtain ⟨e0bnb1, e1bnb1, e2bnb1, e3bnb1⟩ := q9))))
    all_goals
      go_wp2_with fail
      go_meet
      have jab : Below wa.heap.size wa wb := bel_pre hbb (by repeat (first | exact Below.refl _ _ | apply bdw | (refine bdn ?_ _) | (refine bal ?_ (Nat.le_refl _) _)))
      have ra : Res wb v1.heap.size 61 Aa ca (u32s za) := (hra.mono (by simp <;> omega)).below jab (Nat.le_refl _)
      have rb : Res wb v1.heap.size 61 Ab cb (u32s zb) := hrb.mono (Nat.le_trans ja.size (by simp <;> omega))
      have l1 := ja.size
      have l2 := jb.size
      have l3 := hbb.size
      have l4 := hba.size
      refine ⟨_, _, Aa, ca, za, Ab, cb, zb, rfl, rfl, ?_, ?_, hza, hzb, ?_, ?_, ?_, ?_, ?_, (by repeat (first | exact Below.refl _ _ | exact jb | apply bdw | (refine bdn ?_ _) | (refine bal ?_ (Nat.le_refl _) _) | (refine bsc ?_ (by first | exact Nat.le_refl _ | exact Nat.le_succ _ | exact l1 | exact Nat.le_succ_of_le l1 | exact l2 | exact Nat.le_succ_of_le l2) _)))⟩
      all_goals first
        | (simp at l1 l2 l3 l4 ⊢; done)
        | (simp at l1 l2 l3 l4 ⊢; omega)
        | ((repeat' (first | with_reducible exact ra | with_reducible exact rb | with_reducible exact bna0b | with_reducible exact bna1b | with_reducible exact bnb0 | with_reducible exact bnb1 | (with_reducible apply Rs.al) | (with_reducible apply res_al9) | (with_reducible apply Rs.var2) | (with_reducible apply res_var2) | (with_reducible apply blk_pair) | (with_reducible refine Blk.far ?_ (by show _ ≠ _; first | assumption | simp) _) | (with_reducible exact Blk.new_ rfl) | (with_reducible exact blk_two rfl) | (with_reducible refine Blk.heapAlloc ?_ _))); done)
  case rest =>
    obtain ⟨g7, g8, Aa, ca, za, Ab, cb, zb, rfl, rfl, b7, b8, na, nb, ra, rb, h78, l7, l8, j2⟩ := hcut
    obtain ⟨v2, rfl⟩ : ∃ v2 : World, v2 = wc := ⟨_, rfl⟩
    have f2 := F1.out.next j2
    have l2 : w.heap.size + 1 + 1 + 1 + 1 < g7 ∧ w.heap.size + 1 + 1 + 1 + 1 < g8 := by omega
    have VS : Vr w.heap.size v2 g7 za9 N := ⟨Aa, ca, za, b7, na, ra.mono s0, num32_len na (Nat.le_refl _) LA.out⟩
    have VT : Vr w.heap.size v2 g8 yb9 N := ⟨Ab, cb, zb, b8, nb, rb.mono s0, num32_len nb (Nat.le_refl _) LB.out⟩
    have o7 := b7.lt
    have o8 := b8.lt
    have HL8 := Lib.hid l8
    clear AA AB B0 B1 low0 low1 low4 p0 p1 q0 q1 n1 n2 n3 n4 n5 n6 b7 b8 na nb ra rb l7 l8 j2 F1 s0
    go_wp2_with fail
    refine (zof_any 1 (by decide) (by decide) _).mono ?_
    rintro e w2 ⟨zo, Ao, co, rfl, hzo, hro, hbo⟩
    have jo := hbo.size
    have s2 := f2.2.2.2.2.2.size
    go_wp2_with fail
    obtain ⟨v3, hv3⟩ : ∃ v, v = (w2.alloc (.cells #[.bool (isNeg 1), .slice Ao zo.length co] 28)).alloc (.cells #[.bool false, .slice none 0 0] 28) := ⟨_, rfl⟩
    rw [← hv3]
    obtain ⟨b9, b10⟩ : Blk v3 w2.heap.size 28 [.bool (isNeg 1), .slice Ao zo.length co] ∧ Blk v3 (w2.heap.size + 1) 28 [.bool false, .slice none 0 0] := by rw [hv3]; exact blk_pair2 _ _ _ _ _
    have i2 : Below w2.heap.size w2 v3 := by rw [hv3]; exact bel_two _ _ _
    obtain ⟨g9, hg9⟩ : ∃ g, g = w2.heap.size := ⟨_, rfl⟩
    rw [← hg9] at b9 b10 ⊢
    have o9 : g7 < g9 ∧ g8 < g9 := by omega
    have j2 := bst hbo i2 (Nat.le_refl _)
    have VX : Vr w.heap.size v3 g9 1 N := ⟨Ao, co, zo, b9, hzo, (hro.mono s2).below i2 (Nat.le_refl _), Nat.le_trans (num32_len (N := 1) hzo (Nat.le_refl _) (by decide)) hN1⟩
    have VY : Vr w.heap.size v3 (g9 + 1) 0 N := ⟨none, 0, [], b10, Num.zero_ _, Res.none_, Nat.zero_le _⟩
    replace VS := VS.next j2
    replace VT := VT.next j2
    have f3 := f2.next j2
    have hA := HZ9.out
    have hB := HY9.out
    have EU0 : EuB za9 yb9 za9 yb9 1 0 := EuB.start (by omega) (by have := Hy.out; omega)
    clear hv3 b9 b10 i2 hg9 j2 hbo hro hzo jo o7 o8 s2 f2 hA hB
    have H78 := Lib.hid h78
    have L2 := Lib.hid l2
    have O9 := Lib.hid o9
    have EU0 := Lib.hid EU0
    clear h78 l2 o9
    go_loopg [11, 12, 13] yb9.natAbs (fun K _ _ _ wr => ∃ r r2 x x2 : Int, Bz5 w [.bool g, .slice A xs.length c] [.bool g2, .slice A2 ys.length c2] wr ∧ LpS w.heap.size wr g7 g8 g9 (g9 + 1) r r2 x x2 N ∧ EuB za9 yb9 r r2 x x2 ∧ r2.natAbs ≤ K)
    case atStart => exact ⟨za9, yb9, 1, 0, f3, ⟨VS, VT, VX, VY⟩, EU0.out, Nat.le_refl _⟩
    case round =>
      clear VS VT VX VY f3 EU0 LA
      obtain ⟨r, r2, x, x2, ff, ⟨VS, VT, VX, VY⟩, eu, hK9⟩ := hrel
      have h78 := H78.out
      have l2 := L2.out
      have o9 := O9.out
      have EU := Lib.hid eu
      have HK9 := Lib.hid hK9
      have FF0 := Lib.hid ff
      have HVS := Lib.hid VS
      have HVT := Lib.hid VT
      have HVX := Lib.hid VX
      have HVY := Lib.hid VY
      obtain ⟨As, cs, zs, bs, ns, rs', ls⟩ := VS
      obtain ⟨At, ct, zt, bt, nt, rt, lt⟩ := VT
      obtain ⟨sg, hsg⟩ : ∃ s, s = decide (r2 = 0) := ⟨_, rfl⟩
      have SG : Hid (∀ W (_ : Below wr.heap.size wr W), Calls Tryz.prog 42 #[.agg #[.bool (isNeg (r2)), .slice At zt.length ct]] W fun e w' => e = .returned (.bool sg) ∧ Below W.heap.size W w') := fun W hW => by rw [hsg]; exact ((zn_of nt rt lt).zh.next hW).isZero (by omega)
      have ZS := Lib.hid (zn_of ns rs' ls)
      have ZT := Lib.hid (zn_of nt rt lt)
      have BS := Lib.hid bs
      have BT := Lib.hid bt
      obtain ⟨p0, p1, _, _⟩ := bt.two
      have kw := ff.2.2.2.2.2.size
      by_cases h0 : r2 = 0
      · have hs0 : sg = true := by rw [hsg]; exact decide_eq_true h0
        clear hsg
        subst hs0 h0
        clear eu hK9 VX VY nt rt lt ns rs' ls bs bt BS ZS ZT ff BT HVT HVY
        go_wp2_with fail
        refine (SG.out _ (Below.refl _ _)).mono ?_
        rintro e w3 ⟨rfl, hb3⟩
        clear SG p0 p1
        have f3 := FF0.out.next hb3
        have VS := HVS.out.next hb3
        have VX := HVX.out.next hb3
        have eu9 := EU.out
        rw [HZ9.out, HY9.out] at eu9
        obtain ⟨hr9, hd9⟩ := bez_loop HA.out.sg eu9
        obtain ⟨x9, hx9⟩ : ∃ v, v = if g = true then -x else x := ⟨_, rfl⟩
        rw [← hx9] at hd9
        obtain ⟨e0, e1, e2, e3, _, _, _⟩ := bez_exact Hy.out hr9
        obtain ⟨e4, e5⟩ := bez_fin Hy.out hr9 hd9
        obtain ⟨X, hX⟩ : ∃ v, v = x9 % (y / r) := ⟨_, rfl⟩
        obtain ⟨Y, hY⟩ : ∃ v, v = Int.tdiv (r - z * X) y := ⟨_, rfl⟩
        rw [← hX] at e4 e5
        rw [← hY] at e5
        have E0 := Lib.hid e0
        have E1 := Lib.hid e1
        have E2 := Lib.hid e2
        have E3 := Lib.hid e3
        have E4 := Lib.hid e4
        have E5 := Lib.hid e5
        have HX9 := Lib.hid hx9
        have HX := Lib.hid hX
        have HY := Lib.hid hY
        have FF3 := Lib.hid f3
        have VS3 := Lib.hid VS
        have VX3 := Lib.hid VX
        obtain ⟨p0, p1, _, _⟩ := f3.1.two
        clear eu9 hr9 hd9 hx9 e0 e1 e2 e3 e4 e5 hX hY EU FF0 HVS HVX HK9 HZ9 HY9 f3 VS VX hb3 kw
        go_upto_if 51 with (fail)
        go_cut [9] (fun v W => v = .pointer (some ⟨g9, 0, none⟩) ∧ Bz5 w [.bool g, .slice A xs.length c] [.bool g2, .slice A2 ys.length c2] W ∧ Vr w.heap.size W g7 r N ∧ Vr w.heap.size W g9 x9 N)
        case first =>
          clear HA HB E0 E1 E2 E3 E4 E5 HX HY
          obtain ⟨Ax, cx, zx, bx, nx, rx, lx⟩ := VX3.out
          have NG : Hid (∀ W (_ : Below w3.heap.size w3 W), Calls Tryz.prog 25 #[.agg #[.bool (isNeg x), .slice Ax zx.length cx]] W fun e w' => ZOut W w' (-x) e) := fun W hW => ((zn_of nx rx lx).zh.next hW).neg (by omega)
          have LX : Hid ((-x).natAbs < 4294967296 ^ N) := by show _ < _; rw [Int.natAbs_neg]; exact (zn_of nx rx lx).lt
          obtain ⟨q0, q1, q2, q3⟩ := bx.two
          have BX := Lib.hid bx
          clear nx rx lx bx
          cases g
          · have ex : x9 = x := HX9.out
            clear NG LX HX9
            subst ex
            go_wp2_with fail
            go_meet
            exact ⟨rfl, FF3.out, VS3.out, VX3.out⟩
          · have ex : x9 = -x := HX9.out
            clear HX9
            subst ex
            go_wp2_with fail
            refine (NG.out _ (Below.refl _ _)).mono ?_
            rintro e w5 ⟨zn, An, cn, rfl, hzn, hrn, hb5⟩
            clear p0 p1 q0 q1 q2 q3
            have bx := BX.out.below hb5 BX.out.lt
            obtain ⟨q0, q1, q2, q3⟩ := bx.two
            have s3 := FF3.out.2.2.2.2.2.size
            go_wp2_with fail
            go_meet
            exact ⟨rfl, (FF3.out.next hb5).set2 (by omega), (VS3.out.next hb5).other_ bx (by omega), Vr.put bx hzn (hrn.mono s3) (num32_len hzn (Nat.le_refl _) LX.out)⟩
        case rest =>
          obtain ⟨rfl, f6, VS, VX⟩ := hcut
          obtain ⟨v6, rfl⟩ : ∃ v6 : World, v6 = wc := ⟨_, rfl⟩
          clear p0 p1 FF3 VS3 VX3 HX9
          have hB := HB.out.next f6.2.2.2.2.2
          have s6 := f6.2.2.2.2.2.size
          obtain ⟨As, cs, zs, bs, ns, rs', ls⟩ := VS
          obtain ⟨Aw, cw, zw, bw, nw, rw', lw⟩ := VX
          have EO : Hid (∀ W (_ : Below v6.heap.size v6 W), Calls Tryz.prog 32 #[.agg #[.bool g2, .slice A2 ys.length c2], .agg #[.bool (isNeg r), .slice As zs.length cs]] W fun e w' => ZE W w' (y / r) 0 e) := fun W hW => by
            have h9 := (hB.next hW).exact ((zn_of ns rs' ls).zh.next hW) (by omega) (by omega)
            have e0 := E0.out
            rwa [show exQ y r = y / r from by unfold exQ; rw [if_neg (by omega), if_pos E1.out, E2.out], show exE y r = 0 from by unfold exE; rw [if_neg (by omega), if_pos E1.out]] at h9
          have LO : Hid ((y / r).natAbs < 4294967296 ^ N) := Lib.hid (Nat.lt_of_le_of_lt (Int.natAbs_ediv_le_natAbs y r) hB.lt)
          have LX : Hid (X.natAbs < 4294967296 ^ N) := by
            have h1 := emod_lt_abs' x9 E3.out
            have h2 := Int.emod_nonneg x9 E3.out
            have h3 := LO.out
            show _ < _; rw [HX.out]; omega
          have EU2 : Hid (∀ (zo : List Nat) (Ao : Option Addr) (co B9 : Nat) (wo W : World), Below v6.heap.size v6 W → Num 4294967296 zo (y / r).natAbs → Res wo B9 61 Ao co (u32s zo) → Below wo.heap.size wo W → Calls Tryz.prog 29 #[.agg #[.bool (isNeg x9), .slice Aw zw.length cw], .agg #[.bool (isNeg (y / r)), .slice Ao zo.length co]] W fun e w' => ZQ W w' (x9 / (y / r)) X 0 e) := fun zo Ao co B9 wo W hW hn hr hb => by
            have h9 := ((zn_of nw rw' lw).zh.next hW).euclid ((Zn.shrink (K := N) hn hr LO.out).next hb).zh (by omega) (by omega)
            rwa [show euQ x9 (y / r) = x9 / (y / r) from rfl, show euR x9 (y / r) = X from by rw [HX.out]; exact if_neg E3.out, show euE (y / r) = 0 from if_neg E3.out] at h9
          have FF6 := Lib.hid f6
          have BS := Lib.hid bs
          have BW := Lib.hid bw
          have NS := Lib.hid ns
          have RS := Lib.hid rs'
          have LS := Lib.hid ls
          obtain ⟨p0, p1, _, _⟩ := f6.2.1.two
          obtain ⟨q0, q1, _, _⟩ := bs.two
          clear f6 hB bs ns rs' ls bw nw rw' lw
          go_wp2_with fail
          refine (EO.out _ (Below.refl _ _)).mono ?_
          rintro e w7 ⟨zo, Ao, co, rfl, hzo, hro, hb7⟩
          clear p0 p1 q0 q1 EO
          obtain ⟨v7, hv7⟩ : ∃ v, v = w7.alloc (.cells #[.bool (isNeg (y / r)), .slice Ao zo.length co] 28) := ⟨_, rfl⟩
          go_upto_region 12 with (fail)
          rw [← hv7]
          have b14 : Blk v7 w7.heap.size 28 [.bool (isNeg (y / r)), .slice Ao zo.length co] := by rw [hv7]; exact blk_one _ _ _
          have i7 : Below w7.heap.size w7 v7 := by rw [hv7]; exact bel_one _ _
          have j7 := bst hb7 i7 (Nat.le_refl _)
          have bw := BW.out.below j7 BW.out.lt
          obtain ⟨p0, p1, _, _⟩ := b14.two
          obtain ⟨q0, q1, _, _⟩ := bw.two
          have EU3 := Lib.hid (EU2.out zo Ao co _ w7 v7 j7 hzo hro i7)
          have J7 := Lib.hid j7
          clear hv7 b14 i7 j7 bw hzo hro hb7 EU2
          go_wp2_with fail
          refine EU3.out.mono ?_
          rintro e w8 ⟨zq, zx, Aq, cq, Ax, cx, rfl, nq, nx, rq, rx, hb8⟩
          clear p0 p1 q0 q1 EU3 nq rq
          have j8 := bst J7.out hb8 (Nat.le_refl _)
          have bw := BW.out.below j8 BW.out.lt
          obtain ⟨q0, q1, q2, q3⟩ := bw.two
          go_upto_region 13 with (fail)
          obtain ⟨v8, hv8⟩ : ∃ v, v = (w8.setCell ⟨g9, 0, none⟩ (.bool (isNeg X))).setCell ⟨g9, 1, none⟩ (.slice Ax zx.length cx) := ⟨_, rfl⟩
          rw [← hv8]
          obtain ⟨f8, VS, VX⟩ : Bz5 w [.bool g, .slice A xs.length c] [.bool g2, .slice A2 ys.length c2] v8 ∧ Vr w.heap.size v8 g7 r N ∧ (Blk v8 g9 28 [.bool (isNeg X), .slice Ax zx.length cx] ∧ Res v8 w.heap.size 61 Ax cx (u32s zx)) := by
            rw [hv8]
            have VS : Vr w.heap.size v6 g7 r N := ⟨As, cs, zs, BS.out, NS.out, RS.out, LS.out⟩
            exact ⟨(FF6.out.next j8).set2 (by omega), (VS.next j8).other_ bw (by omega), blk_pair bw _ _, res_var2 (rx.mono (Nat.le_trans s6 J7.out.size)) bw _ _⟩
          have RX := Lib.hid VX.2
          have LXL := Lib.hid (num32_len nx (Nat.le_refl _) LX.out)
          have NX := Lib.hid nx
          have b9 := VX.1
          have b7 : Blk v8 g7 28 [.bool (isNeg r), .slice As zs.length cs] := by rw [hv8]; exact far2 (BS.out.below j8 BS.out.lt) (by omega)
          have r7 : Res v8 w.heap.size 61 As cs (u32s zs) := by rw [hv8]; exact res_var2 (RS.out.below j8 (Nat.le_refl _)) bw _ _
          have hA := HA.out.next f8.2.2.2.2.2
          have hB := HB.out.next f8.2.2.2.2.2
          have zr := zn_of NS.out r7 LS.out
          have zX : Zn v8 Ax cx zx X N := Zn.shrink nx VX.2 LX.out
          have ML : Hid (∀ W (_ : Below v8.heap.size v8 W), Calls Tryz.prog 23 #[.agg #[.bool g, .slice A xs.length c], .agg #[.bool (isNeg X), .slice Ax zx.length cx]] W fun e w' => ZOut W w' (z * X) e) := fun W hW => (hA.next hW).mul (zX.zh.next hW) (by omega) (by omega)
          have SB : Hid (∀ (zm : List Nat) (Am : Option Addr) (cm B9 : Nat) (wo W : World), Below v8.heap.size v8 W → Num 4294967296 zm (z * X).natAbs → Res wo B9 61 Am cm (u32s zm) → Below wo.heap.size wo W → Calls Tryz.prog 24 #[.agg #[.bool (isNeg r), .slice As zs.length cs], .agg #[.bool (isNeg (z * X)), .slice Am zm.length cm]] W fun e w' => ZOut W w' (r - z * X) e) := fun zm Am cm B9 wo W hW hn hr hb => (zr.zh.next hW).sub ((Zn.shrink (K := N + N) hn hr (zprod_lt hA.lt zX.lt)).next hb).zh (by omega) (by omega)
          have EX : Hid (∀ (zb : List Nat) (Ab : Option Addr) (cb B9 : Nat) (wo W : World), Below v8.heap.size v8 W → Num 4294967296 zb (r - z * X).natAbs → Res wo B9 61 Ab cb (u32s zb) → Below wo.heap.size wo W → Calls Tryz.prog 32 #[.agg #[.bool (isNeg (r - z * X)), .slice Ab zb.length cb], .agg #[.bool g2, .slice A2 ys.length c2]] W fun e w' => ZE W w' Y 0 e) := fun zb Ab cb B9 wo W hW hn hr hb => by
            have h9 := ((Zn.shrink (K := max N (N + N) + 1) hn hr (zdiff_lt (by omega) zr.lt (zprod_lt hA.lt zX.lt))).next hb).zh.exact (hB.next hW) (by omega) (by omega)
            rwa [show exQ (r - z * X) y = Y from by unfold exQ; rw [if_neg Hy.out, if_pos E4.out, HY.out], show exE (r - z * X) y = 0 from by unfold exE; rw [if_neg Hy.out, if_pos E4.out]] at h9
          have LY : Hid (Y.natAbs < 4294967296 ^ (max N (N + N) + 1)) := by
            show _ < _; rw [HY.out]
            exact Nat.lt_of_le_of_lt (by rw [Int.natAbs_tdiv]; exact Nat.div_le_self _ _) (zdiff_lt (by omega) zr.lt (zprod_lt hA.lt zX.lt))
          have FF8 := Lib.hid f8
          have B7 := Lib.hid b7
          have B9 := Lib.hid b9
          have BA := Lib.hid f8.1
          have BB := Lib.hid f8.2.1
          have R7 := Lib.hid r7
          have low0 : g7 < v8.heap.size := b7.lt
          have low1 : g9 < v8.heap.size := b9.lt
          have low2 : w.heap.size < v8.heap.size := f8.1.lt
          have low3 : w.heap.size + 1 < v8.heap.size := f8.2.1.lt
          clear q0 q1 q2 q3 hv8 VS VX b9 b7 r7 hA hB zr zX nx rx f8 bw j8 hb8 BS RS FF6 BW J7 HA HB E0 E1 E2 E3 E4 HX HY LX
          obtain ⟨p0, p1, _, _⟩ := B7.out.two
          obtain ⟨p2, p3, _, _⟩ := B9.out.two
          obtain ⟨p4, p5, _, _⟩ := BA.out.two
          obtain ⟨p6, p7, _, _⟩ := BB.out.two
          have n1 : g7 ≠ v8.heap.size := by omega
          have n2 : g9 ≠ v8.heap.size := by omega
          have n3 : w.heap.size ≠ v8.heap.size := by omega
          have n4 : w.heap.size + 1 ≠ v8.heap.size := by omega
          have n5 := Ne.symm n1
          have n6 := Ne.symm n2
          have n7 := Ne.symm n3
          have n8 := Ne.symm n4
          go_cut [16, 17] (fun v16 _ W => ∃ g16 Ay cy zy, v16 = .pointer (some ⟨g16, 0, none⟩) ∧ Blk W g16 28 [.bool (isNeg Y), .slice Ay zy.length cy] ∧ Num 4294967296 zy Y.natAbs ∧ Res W v8.heap.size 61 Ay cy (u32s zy) ∧ v8.heap.size ≤ g16 ∧ Below v8.heap.size v8 W)
          case first =>
            go_region_held3 (fun W => W.cell? ⟨g7, 0, none⟩ = some (.bool (isNeg r)) ∧ W.cell? ⟨g7, 1, none⟩ = some (.slice As zs.length cs) ∧ W.cell? ⟨g9, 0, none⟩ = some (.bool (isNeg X)) ∧ W.cell? ⟨g9, 1, none⟩ = some (.slice Ax zx.length cx) ∧ W.cell? ⟨w.heap.size, 0, none⟩ = some (.bool g) ∧ W.cell? ⟨w.heap.size, 1, none⟩ = some (.slice A xs.length c) ∧ W.cell? ⟨w.heap.size + 1, 0, none⟩ = some (.bool g2) ∧ W.cell? ⟨w.heap.size + 1, 1, none⟩ = some (.slice A2 ys.length c2)) (go_keep) (first
              | (go_at_call 23; (with_reducible refine (ML.out _ (by repeat (first | exact Below.refl _ _ | exact jm | exact jb | exact jy | apply bdw | (refine bdn ?_ _) | (refine bal ?_ (Nat.le_refl _) _)))).mono ?_); rintro e wm ⟨zm, Am, cm, rfl, hzm, hrm, hbm⟩; have jm : Below v8.heap.size v8 wm := bst (by repeat (first | exact Below.refl _ _ | exact jm | exact jb | exact jy | apply bdw | (refine bdn ?_ _) | (refine bal ?_ (Nat.le_refl _) _))) hbm (Nat.le_refl _); obtain ⟨x0m, y0m, u0m, v0m⟩ := (B7.out.below jm B7.out.lt).two; obtain ⟨xx0m, yy0m, uu0m, vv0m⟩ := two_al (B7.out.below jm B7.out.lt); obtain ⟨x1m, y1m, u1m, v1m⟩ := (B9.out.below jm B9.out.lt).two; obtain ⟨xx1m, yy1m, uu1m, vv1m⟩ := two_al (B9.out.below jm B9.out.lt); obtain ⟨x2m, y2m, u2m, v2m⟩ := (BA.out.below jm BA.out.lt).two; obtain ⟨xx2m, yy2m, uu2m, vv2m⟩ := two_al (BA.out.below jm BA.out.lt); obtain ⟨x3m, y3m, u3m, v3m⟩ := (BB.out.below jm BB.out.lt).two; obtain ⟨xx3m, yy3m, uu3m, vv3m⟩ := two_al (BB.out.below jm BB.out.lt); have m0m : g7 < wm.heap.size := Nat.lt_of_lt_of_le low0 jm.size; have ma0m := Nat.ne_of_lt m0m; have mb0m := Nat.ne_of_gt m0m; have mc0m := Nat.ne_of_lt (Nat.lt_succ_of_lt m0m); have md0m := Nat.ne_of_gt (Nat.lt_succ_of_lt m0m); have m1m : g9 < wm.heap.size := Nat.lt_of_lt_of_le low1 jm.size; have ma1m := Nat.ne_of_lt m1m; have mb1m := Nat.ne_of_gt m1m; have mc1m := Nat.ne_of_lt (Nat.lt_succ_of_lt m1m); have md1m := Nat.ne_of_gt (Nat.lt_succ_of_lt m1m); have m2m : w.heap.size < wm.heap.size := Nat.lt_of_lt_of_le low2 jm.size; have ma2m := Nat.ne_of_lt m2m; have mb2m := Nat.ne_of_gt m2m; have mc2m := Nat.ne_of_lt (Nat.lt_succ_of_lt m2m); have md2m := Nat.ne_of_gt (Nat.lt_succ_of_lt m2m); have m3m : w.heap.size + 1 < wm.heap.size := Nat.lt_of_lt_of_le low3 jm.size; have ma3m := Nat.ne_of_lt m3m; have mb3m := Nat.ne_of_gt m3m; have mc3m := Nat.ne_of_lt (Nat.lt_succ_of_lt m3m); have md3m := Nat.ne_of_gt (Nat.lt_succ_of_lt m3m); (first | (have bnm0 := ((blk_one v8 (.bool false) (.slice none 0 0))).below hbm (by simp)) | (have bnm0 := ((blk_one v8 (.bool false) (.slice none 0 0)).drew).below hbm (by simp)) | (have bnm0 := ((blk_one v8 (.bool false) (.slice none 0 0)).drewN _).below hbm (by simp)) | skip); (try (have q9 := bnm0.two; obtain ⟨a0bnm0, a1bnm0, a2bnm0, a3bnm0⟩ := q9)); (try (have q9 := two_al bnm0; obtain ⟨c0bnm0, c1bnm0, c2bnm0, c3bnm0⟩ := q9)); (try have d0bnm0 := Nat.ne_of_lt bnm0.lt); (try have d1bnm0 := Nat.ne_of_gt bnm0.lt); (try have d2bnm0 := Nat.ne_of_lt (Nat.lt_succ_of_lt bnm0.lt)); (try have d3bnm0 := Nat.ne_of_gt (Nat.lt_succ_of_lt bnm0.lt)); (try (have q9 := two_al2 bnm0; obtain ⟨e0bnm0, e1bnm0, e2bnm0, e3bnm0⟩ := q9)))
              | (go_at_call 24; (with_reducible refine (SB.out zm Am cm _ wm _ (by repeat (first | exact Below.refl _ _ | exact jm | exact jb | exact jy | apply bdw | (refine bdn ?_ _) | (refine bal ?_ (Nat.le_refl _) _))) hzm hrm (by repeat (first | exact Below.refl _ _ | apply bdw | (refine bdn ?_ _) | (refine bal ?_ (Nat.le_refl _) _)))).mono ?_); rintro e wb ⟨zb, Ab, cb, rfl, hzb, hrb, hbb⟩; have jb : Below v8.heap.size v8 wb := bst (by repeat (first | exact Below.refl _ _ | exact jm | exact jb | exact jy | apply bdw | (refine bdn ?_ _) | (refine bal ?_ (Nat.le_refl _) _))) hbb (Nat.le_refl _); obtain ⟨x0b, y0b, u0b, v0b⟩ := (B7.out.below jb B7.out.lt).two; obtain ⟨xx0b, yy0b, uu0b, vv0b⟩ := two_al (B7.out.below jb B7.out.lt); obtain ⟨x1b, y1b, u1b, v1b⟩ := (B9.out.below jb B9.out.lt).two; obtain ⟨xx1b, yy1b, uu1b, vv1b⟩ := two_al (B9.out.below jb B9.out.lt); obtain ⟨x2b, y2b, u2b, v2b⟩ := (BA.out.below jb BA.out.lt).two; obtain ⟨xx2b, yy2b, uu2b, vv2b⟩ := two_al (BA.out.below jb BA.out.lt); obtain ⟨x3b, y3b, u3b, v3b⟩ := (BB.out.below jb BB.out.lt).two; obtain ⟨xx3b, yy3b, uu3b, vv3b⟩ := two_al (BB.out.below jb BB.out.lt); have m0b : g7 < wb.heap.size := Nat.lt_of_lt_of_le low0 jb.size; have ma0b := Nat.ne_of_lt m0b; have mb0b := Nat.ne_of_gt m0b; have mc0b := Nat.ne_of_lt (Nat.lt_succ_of_lt m0b); have md0b := Nat.ne_of_gt (Nat.lt_succ_of_lt m0b); have m1b : g9 < wb.heap.size := Nat.lt_of_lt_of_le low1 jb.size; have ma1b := Nat.ne_of_lt m1b; have mb1b := Nat.ne_of_gt m1b; have mc1b := Nat.ne_of_lt (Nat.lt_succ_of_lt m1b); have md1b := Nat.ne_of_gt (Nat.lt_succ_of_lt m1b); have m2b : w.heap.size < wb.heap.size := Nat.lt_of_lt_of_le low2 jb.size; have ma2b := Nat.ne_of_lt m2b; have mb2b := Nat.ne_of_gt m2b; have mc2b := Nat.ne_of_lt (Nat.lt_succ_of_lt m2b); have md2b := Nat.ne_of_gt (Nat.lt_succ_of_lt m2b); have m3b : w.heap.size + 1 < wb.heap.size := Nat.lt_of_lt_of_le low3 jb.size; have ma3b := Nat.ne_of_lt m3b; have mb3b := Nat.ne_of_gt m3b; have mc3b := Nat.ne_of_lt (Nat.lt_succ_of_lt m3b); have md3b := Nat.ne_of_gt (Nat.lt_succ_of_lt m3b); (first | (have bnb0 := ((blk_one wm (.bool false) (.slice none 0 0))).below hbb (by simp)) | (have bnb0 := ((blk_one wm (.bool false) (.slice none 0 0)).drew).below hbb (by simp)) | (have bnb0 := ((blk_one wm (.bool false) (.slice none 0 0)).drewN _).below hbb (by simp)) | skip); (try have bnm0b := bnm0.below (bel_pre hbb (by repeat (first | exact Below.refl _ _ | exact hbm | exact hbb | exact hby | apply bdw | (refine bdn ?_ _) | (refine bal ?_ (Nat.le_refl _) _)))) bnm0.lt); (try (have q9 := bnm0b.two; obtain ⟨a0bnm0b, a1bnm0b, a2bnm0b, a3bnm0b⟩ := q9)); (try (have q9 := two_al bnm0b; obtain ⟨c0bnm0b, c1bnm0b, c2bnm0b, c3bnm0b⟩ := q9)); (try have d0bnm0b := Nat.ne_of_lt bnm0b.lt); (try have d1bnm0b := Nat.ne_of_gt bnm0b.lt); (try have d2bnm0b := Nat.ne_of_lt (Nat.lt_succ_of_lt bnm0b.lt)); (try have d3bnm0b := Nat.ne_of_gt (Nat.lt_succ_of_lt bnm0b.lt)); (try (have q9 := two_al2 bnm0b; obtain ⟨e0bnm0b, e1bnm0b, e2bnm0b, e3bnm0b⟩ := q9)); (try (have q9 := bnb0.two; obtain ⟨a0bnb0, a1bnb0, a2bnb0, a3bnb0⟩ := q9)); (try (have q9 := two_al bnb0; obtain ⟨c0bnb0, c1bnb0, c2bnb0, c3bnb0⟩ := q9)); (try have d0bnb0 := Nat.ne_of_lt bnb0.lt); (try have d1bnb0 := Nat.ne_of_gt bnb0.lt); (try have d2bnb0 := Nat.ne_of_lt (Nat.lt_succ_of_lt bnb0.lt)); (try have d3bnb0 := Nat.ne_of_gt (Nat.lt_succ_of_lt bnb0.lt)); (try (have q9 := two_al2 bnb0; obtain ⟨e0bnb0, e1bnb0, e2bnb0, e3bnb0⟩ := q9)))
              | (go_at_call 32; (with_reducible refine (EX.out zb Ab cb _ wb _ (by repeat (first | exact Below.refl _ _ | exact jm | exact jb | exact jy | apply bdw | (refine bdn ?_ _) | (refine bal ?_ (Nat.le_refl _) _))) hzb hrb (by repeat (first | exact Below.refl _ _ | apply bdw | (refine bdn ?_ _) | (refine bal ?_ (Nat.le_refl _) _)))).mono ?_); rintro e wy ⟨zy, Ay, cy, rfl, hzy, hry, hby⟩; have jy : Below v8.heap.size v8 wy := bst (by repeat (first | exact Below.refl _ _ | exact jm | exact jb | exact jy | apply bdw | (refine bdn ?_ _) | (refine bal ?_ (Nat.le_refl _) _))) hby (Nat.le_refl _); obtain ⟨x0y, y0y, u0y, v0y⟩ := (B7.out.below jy B7.out.lt).two; obtain ⟨xx0y, yy0y, uu0y, vv0y⟩ := two_al (B7.out.below jy B7.out.lt); obtain ⟨x1y, y1y, u1y, v1y⟩ := (B9.out.below jy B9.out.lt).two; obtain ⟨xx1y, yy1y, uu1y, vv1y⟩ := two_al (B9.out.below jy B9.out.lt); obtain ⟨x2y, y2y, u2y, v2y⟩ := (BA.out.below jy BA.out.lt).two; obtain ⟨xx2y, yy2y, uu2y, vv2y⟩ := two_al (BA.out.below jy BA.out.lt); obtain ⟨x3y, y3y, u3y, v3y⟩ := (BB.out.below jy BB.out.lt).two; obtain ⟨xx3y, yy3y, uu3y, vv3y⟩ := two_al (BB.out.below jy BB.out.lt); have m0y : g7 < wy.heap.size := Nat.lt_of_lt_of_le low0 jy.size; have ma0y := Nat.ne_of_lt m0y; have mb0y := Nat.ne_of_gt m0y; have mc0y := Nat.ne_of_lt (Nat.lt_succ_of_lt m0y); have md0y := Nat.ne_of_gt (Nat.lt_succ_of_lt m0y); have m1y : g9 < wy.heap.size := Nat.lt_of_lt_of_le low1 jy.size; have ma1y := Nat.ne_of_lt m1y; have mb1y := Nat.ne_of_gt m1y; have mc1y := Nat.ne_of_lt (Nat.lt_succ_of_lt m1y); have md1y := Nat.ne_of_gt (Nat.lt_succ_of_lt m1y); have m2y : w.heap.size < wy.heap.size := Nat.lt_of_lt_of_le low2 jy.size; have ma2y := Nat.ne_of_lt m2y; have mb2y := Nat.ne_of_gt m2y; have mc2y := Nat.ne_of_lt (Nat.lt_succ_of_lt m2y); have md2y := Nat.ne_of_gt (Nat.lt_succ_of_lt m2y); have m3y : w.heap.size + 1 < wy.heap.size := Nat.lt_of_lt_of_le low3 jy.size; have ma3y := Nat.ne_of_lt m3y; have mb3y := Nat.ne_of_gt m3y; have mc3y := Nat.ne_of_lt (Nat.lt_succ_of_lt m3y); have md3y := Nat.ne_of_gt (Nat.lt_succ_of_lt m3y); (first | (have bny0 := ((blk_one wb (.bool false) (.slice none 0 0))).below hby (by simp)) | (have bny0 := ((blk_one wb (.bool false) (.slice none 0 0)).drew).below hby (by simp)) | (have bny0 := ((blk_one wb (.bool false) (.slice none 0 0)).drewN _).below hby (by simp)) | skip); (try have bnm0by := bnm0b.below (bel_pre hby (by repeat (first | exact Below.refl _ _ | exact hbm | exact hbb | exact hby | apply bdw | (refine bdn ?_ _) | (refine bal ?_ (Nat.le_refl _) _)))) bnm0b.lt); (try have bnb0y := bnb0.below (bel_pre hby (by repeat (first | exact Below.refl _ _ | exact hbm | exact hbb | exact hby | apply bdw | (refine bdn ?_ _) | (refine bal ?_ (Nat.le_refl _) _)))) bnb0.lt); (try (have q9 := bnm0by.two; obtain ⟨a0bnm0by, a1bnm0by, a2bnm0by, a3bnm0by⟩ := q9)); (try (have q9 := two_al bnm0by; obtain ⟨c0bnm0by, c1bnm0by, c2bnm0by, c3bnm0by⟩ := q9)); (try have d0bnm0by := Nat.ne_of_lt bnm0by.lt); (try have d1bnm0by := Nat.ne_of_gt bnm0by.lt); (try have d2bnm0by := Nat.ne_of_lt (Nat.lt_succ_of_lt bnm0by.lt)); (try have d3bnm0by := Nat.ne_of_gt (Nat.lt_succ_of_lt bnm0by.lt)); (try (have q9 := two_al2 bnm0by; obtain ⟨e0bnm0by, e1bnm0by, e2bnm0by, e3bnm0by⟩ := q9)); (try (have q9 := bnb0y.two; obtain ⟨a0bnb0y, a1bnb0y, a2bnb0y, a3bnb0y⟩ := q9)); (try (have q9 := two_al bnb0y; obtain ⟨c0bnb0y, c1bnb0y, c2bnb0y, c3bnb0y⟩ := q9)); (try have d0bnb0y := Nat.ne_of_lt bnb0y.lt); (try have d1bnb0y := Nat.ne_of_gt bnb0y.lt); (try have d2bnb0y := Nat.ne_of_lt (Nat.lt_succ_of_lt bnb0y.lt)); (try have d3bnb0y := Nat.ne_of_gt (Nat.lt_succ_of_lt bnb0y.lt)); (try (have q9 := two_al2 bnb0y; obtain ⟨e0bnb0y, e1bnb0y, e2bnb0y, e3bnb0y⟩ := q9)); (try (have q9 := bny0.two; obtain ⟨a0bny0, a1bny0, a2bny0, a3bny0⟩ := q9)); (try (have q9 := two_al bny0; obtain ⟨c0bny0, c1bny0, c2bny0, c3bny0⟩ := q9)); (try have d0bny0 := Nat.ne_of_lt bny0.lt); (try have d1bny0 := Nat.ne_of_gt bny0.lt); (try have d2bny0 := Nat.ne_of_lt (Nat.lt_succ_of_lt bny0.lt)); (try have d3bny0 := Nat.ne_of_gt (Nat.lt_succ_of_lt bny0.lt)); (try (have q9 := two_al2 bny0; obtain ⟨e0bny0, e1bny0, e2bny0, e3bny0⟩ := q9))))
            all_goals
              go_wp2_with fail
              go_meet
              have jmb : Below wm.heap.size wm wb := bel_pre hbb (by repeat (first | exact Below.refl _ _ | apply bdw | (refine bdn ?_ _) | (refine bal ?_ (Nat.le_refl _) _)))
              have jby : Below wb.heap.size wb wy := bel_pre hby (by repeat (first | exact Below.refl _ _ | apply bdw | (refine bdn ?_ _) | (refine bal ?_ (Nat.le_refl _) _)))
              have ry9 : Res wy v8.heap.size 61 Ay cy (u32s zy) := hry.mono (Nat.le_trans jb.size (by simp <;> omega))
              have l1 := jm.size
              have l2 := jb.size
              have l3 := jy.size
              have l4 := hbm.size
              have l5 := hbb.size
              have l6 := hby.size
              refine ⟨_, Ay, cy, zy, rfl, ?_, hzy, ?_, ?_, (by repeat (first | exact Below.refl _ _ | exact jy | apply bdw | (refine bdn ?_ _) | (refine bal ?_ (Nat.le_refl _) _) | (refine bsc ?_ (by first | exact Nat.le_refl _ | exact Nat.le_succ _ | exact l1 | exact Nat.le_succ_of_le l1 | exact l2 | exact Nat.le_succ_of_le l2 | exact l3 | exact Nat.le_succ_of_le l3) _)))⟩
              all_goals first
                | (simp at l1 l2 l3 l4 l5 l6 ⊢; done)
                | (simp at l1 l2 l3 l4 l5 l6 ⊢; omega)
                | ((repeat' (first | with_reducible exact ry9 | with_reducible exact bnm0y | with_reducible exact bnm0by | with_reducible exact bnm0b | with_reducible exact bnb0y | with_reducible exact bnb0 | with_reducible exact bny0 | (with_reducible apply Rs.al) | (with_reducible apply res_al9) | (with_reducible apply Rs.var2) | (with_reducible apply res_var2) | (with_reducible apply blk_pair) | (with_reducible refine Blk.far ?_ (by show _ ≠ _; first | assumption | simp) _) | (with_reducible exact Blk.new_ rfl) | (with_reducible exact blk_two rfl) | (with_reducible refine Blk.heapAlloc ?_ _))); done)
          case rest =>
            obtain ⟨g16, Ay, cy, zy, rfl, b16, ny, ry, l16, j9⟩ := hcut
            obtain ⟨v9, rfl⟩ : ∃ v9 : World, v9 = wc := ⟨_, rfl⟩
            have f9 := FF8.out.next j9
            have b7 := B7.out.below j9 B7.out.lt
            have b9 := B9.out.below j9 B9.out.lt
            have r7 := R7.out.below j9 (Nat.le_refl _)
            have rx := RX.out.below j9 (Nat.le_refl _)
            have s8 := FF8.out.2.2.2.2.2.size
            clear ML SB EX p0 p1 p2 p3 p4 p5 p6 p7 n1 n2 n3 n4 n5 n6 n7 n8 BA BB
            have BC := Lib.hid f9.2.2.1
            have BD := Lib.hid f9.2.2.2.1
            have BE := Lib.hid f9.2.2.2.2.1
            have KK := Lib.hid f9.2.2.2.2.2
            have R9 := Lib.hid r7
            have RX9 := Lib.hid rx
            have RY9 := Lib.hid (ry.mono s8)
            have NY := Lib.hid ny
            obtain ⟨p0, p1, _, _⟩ := b7.two
            obtain ⟨p2, p3, _, _⟩ := b9.two
            obtain ⟨p4, p5, _, _⟩ := b16.two
            obtain ⟨t0, t1, t2, t3⟩ := BC.out.two
            obtain ⟨u0, u1, u2, u3⟩ := BD.out.two
            obtain ⟨x0, x1, x2', x3⟩ := BE.out.two
            clear f9 b7 b9 b16 r7 rx ry ny j9 FF8 B7 B9 R7 RX s8
            have m1 : w.heap.size + 1 + 1 ≠ w.heap.size + 1 + 1 + 1 := by omega
            have m2 : w.heap.size + 1 + 1 ≠ w.heap.size + 1 + 1 + 1 + 1 := by omega
            have m3 : w.heap.size + 1 + 1 + 1 ≠ w.heap.size + 1 + 1 + 1 + 1 := by omega
            have m4 := Ne.symm m1
            have m5 := Ne.symm m2
            have m6 := Ne.symm m3
            have n1 : w.heap.size + 1 + 1 ≠ g7 := by omega
            have n2 : w.heap.size + 1 + 1 + 1 ≠ g7 := by omega
            have n3 : w.heap.size + 1 + 1 + 1 + 1 ≠ g7 := by omega
            have n4 : w.heap.size + 1 + 1 ≠ g9 := by omega
            have n5 : w.heap.size + 1 + 1 + 1 ≠ g9 := by omega
            have n6 : w.heap.size + 1 + 1 + 1 + 1 ≠ g9 := by omega
            have n7 : w.heap.size + 1 + 1 ≠ g16 := by omega
            have n8 : w.heap.size + 1 + 1 + 1 ≠ g16 := by omega
            have n9 : w.heap.size + 1 + 1 + 1 + 1 ≠ g16 := by omega
            go_upto_region 14 with (fail)
            go_region_held3 (fun W => W.cell? ⟨g7, 0, none⟩ = some (.bool (isNeg r)) ∧ W.cell? ⟨g7, 1, none⟩ = some (.slice As zs.length cs) ∧ W.cell? ⟨g9, 0, none⟩ = some (.bool (isNeg X)) ∧ W.cell? ⟨g9, 1, none⟩ = some (.slice Ax zx.length cx) ∧ W.cell? ⟨g16, 0, none⟩ = some (.bool (isNeg Y)) ∧ W.cell? ⟨g16, 1, none⟩ = some (.slice Ay zy.length cy)) (go_keep) (fail)
            all_goals
              go_wp2_with fail
              have F := vr_three BC.out BD.out BE.out m1 m2 m3 NS.out R9.out LS.out NX.out RX9.out LXL.out NY.out RY9.out (num32_len NY.out (Nat.le_refl _) LY.out) rfl
              exact zzz_ret (fun e w' h => ⟨r, X, Y, E5.out, h⟩) (bdw (bsc6 KK.out (by omega) (by omega) (by omega))) (F.1.next (bdw (Below.refl _ _))) (F.2.1.next (bdw (Below.refl _ _))) (F.2.2.next (bdw (Below.refl _ _))) rfl rfl rfl rfl rfl
      · have hs1 : sg = false := by rw [hsg]; exact decide_eq_false h0
        clear hsg
        subst hs1
        obtain ⟨rl1, rl2⟩ := rest_lt (r := r) eu.s0 h0 ZT.out.lt
        have RL1 := Lib.hid rl1
        have RL2 := Lib.hid rl2
        have QL := Lib.hid (quo_lt (r2 := r2) ZS.out.lt)
        have EN := Lib.hid (eu.next h0)
        have HT := Lib.hid nt
        have HRT := Lib.hid rt
        have HLT := Lib.hid lt
        have EC : Hid (∀ W (_ : Below wr.heap.size wr W), Calls Tryz.prog 29 #[.agg #[.bool (isNeg r), .slice As zs.length cs], .agg #[.bool (isNeg r2), .slice At zt.length ct]] W fun e w' => ZQ W w' (r / r2) (r % r2) 0 e) := fun W hW => by
          have h9 := (ZS.out.zh.next hW).euclid (ZT.out.zh.next hW) (by omega) (by omega)
          rwa [show euQ r r2 = r / r2 from rfl, show euR r r2 = r % r2 from if_neg h0, show euE r2 = 0 from if_neg h0] at h9
        clear eu hK9 VX VY nt rt lt ns rs' ls bs bt HVS HVT ZS ZT EU rl1 rl2 ff
        have H0 := Lib.hid h0
        clear h0
        go_wp2_with fail
        refine (SG.out _ (Below.refl _ _)).mono ?_
        rintro e w3 ⟨rfl, hb3⟩
        clear SG p0 p1
        obtain ⟨p0, p1, _, _⟩ := (BT.out.below hb3 BT.out.lt).two
        obtain ⟨q0, q1, _, _⟩ := (BS.out.below hb3 BS.out.lt).two
        go_wp2_with fail
        refine (EC.out _ hb3).mono ?_
        rintro e w4 ⟨zk, zw, Ak, ck, Aw, cw, rfl, nk, nw, rk, rw9, hb4⟩
        clear EC p0 p1 q0 q1
        go_upto_region 7 with (fail)
        obtain ⟨v4, hv4⟩ : ∃ v, v = (w4.alloc (.cells #[.bool (isNeg (r / r2)), .slice Ak zk.length ck] 28)).alloc (.cells #[.bool (isNeg (r % r2)), .slice Aw zw.length cw] 28) := ⟨_, rfl⟩
        rw [← hv4]
        obtain ⟨b11, b12⟩ : Blk v4 w4.heap.size 28 [.bool (isNeg (r / r2)), .slice Ak zk.length ck] ∧ Blk v4 (w4.heap.size + 1) 28 [.bool (isNeg (r % r2)), .slice Aw zw.length cw] := by rw [hv4]; exact blk_pair2 _ _ _ _ _
        have i4 : Below w4.heap.size w4 v4 := by rw [hv4]; exact bel_two _ _ _
        have g9lt := HVY.out.lt
        have kw3 := hb3.size
        obtain ⟨g11, hg11⟩ : ∃ g, g = w4.heap.size := ⟨_, rfl⟩
        rw [← hg11] at b11 b12 ⊢
        have o11 : g9 + 1 < g11 := by have := hb4.size; omega
        have j4 := bst (bst hb3 hb4 (Nat.le_refl _)) i4 (Nat.le_refl _)
        have f4 := FF0.out.next j4
        have VK : Vr w.heap.size v4 g11 (r / r2) N := ⟨Ak, ck, zk, b11, nk, (rk.mono (Nat.le_trans kw kw3)).below i4 (Nat.le_refl _), num32_len nk (Nat.le_refl _) QL.out⟩
        have bs := BS.out.below j4 BS.out.lt
        have bt := BT.out.below j4 BT.out.lt
        have F := vr_two (B := w.heap.size) bs bt h78 HT.out (HRT.out.below j4 (Nat.le_refl _)) HLT.out nw ((rw9.mono (Nat.le_trans kw kw3)).below i4 (Nat.le_refl _)) (num32_len nw (Nat.le_refl _) RL1.out)
        have F2 := (HVX.out.next j4).other4 (u1 := .bool (isNeg r2)) (u2 := .slice At zt.length ct) (u3 := .bool (isNeg (r % r2))) (u4 := .slice Aw zw.length cw) bs bt (Ne.symm h78) (by omega) (by omega)
        have F3 := (HVY.out.next j4).other4 (u1 := .bool (isNeg r2)) (u2 := .slice At zt.length ct) (u3 := .bool (isNeg (r % r2))) (u4 := .slice Aw zw.length cw) bs bt (Ne.symm h78) (by omega) (by omega)
        have F4 := VK.other4 (u1 := .bool (isNeg r2)) (u2 := .slice At zt.length ct) (u3 := .bool (isNeg (r % r2))) (u4 := .slice Aw zw.length cw) bs bt (Ne.symm h78) (by omega) (by omega)
        have F5 := f4.set4 (g := g7) (h := g8) (u1 := .bool (isNeg r2)) (u2 := .slice At zt.length ct) (u3 := .bool (isNeg (r % r2))) (u4 := .slice Aw zw.length cw) l2.1 l2.2
        obtain ⟨p0, p1, p2, p3⟩ := bt.two
        obtain ⟨q0, q1, q2, q3⟩ := bs.two
        obtain ⟨t0, t1, t2, t3⟩ := b12.two
        have n1 : g7 ≠ g8 := h78
        have n2 : g8 ≠ g7 := Ne.symm h78
        have n3 : g11 + 1 ≠ g7 := by omega
        have n4 : g11 + 1 ≠ g8 := by omega
        have n5 : g7 ≠ g11 + 1 := by omega
        have n6 : g8 ≠ g11 + 1 := by omega
        have FF := Lib.hid (And.intro F (And.intro F2 (And.intro F3 (And.intro F4 F5))))
        clear F F2 F3 F4 F5 hv4 b11 b12 i4 hg11 j4 f4 VK bs bt nk nw rk rw9 hb3 hb4 HVX HVY BS BT HT HRT HLT FF0 kw kw3
        go_cut [11, 12, 13] (fun v11 v12 _ W => v11 = .pointer (some ⟨g11, 0, none⟩) ∧ v12 = .pointer (some ⟨g11 + 1, 0, none⟩) ∧ Bz5 w [.bool g, .slice A xs.length c] [.bool g2, .slice A2 ys.length c2] W ∧ LpS w.heap.size W g7 g8 g9 (g9 + 1) r2 (r % r2) x x2 N ∧ Vr w.heap.size W g11 (r / r2) N)
        case first =>
          go_region_with (fail)
          all_goals
            go_wp2_with fail
            go_meet
            have F := FF.out
            exact ⟨rfl, rfl, by first | exact F.2.2.2.2 | exact F.2.2.2.2.drew 1 | exact F.2.2.2.2.drew _, ⟨F.1.1, F.1.2, F.2.1, F.2.2.1⟩, F.2.2.2.1⟩
        case rest =>
          obtain ⟨rfl, rfl, f6, ⟨VS, VT, VX, VY⟩, VK⟩ := hcut
          obtain ⟨v6, rfl⟩ : ∃ v6 : World, v6 = wc := ⟨_, rfl⟩
          have HVS := Lib.hid VS
          have HVT := Lib.hid VT
          have FF6 := Lib.hid f6
          have s6 := f6.2.2.2.2.2.size
          obtain ⟨Ax, cx, zx, bx, nx, rx, lx⟩ := VX
          obtain ⟨Ay, cy, zy, by_, ny, ry, ly⟩ := VY
          obtain ⟨Ak, ck, zk, bk, nk, rk, lk⟩ := VK
          have ML : Hid (∀ W (_ : Below v6.heap.size v6 W), Calls Tryz.prog 23 #[.agg #[.bool (isNeg (r / r2)), .slice Ak zk.length ck], .agg #[.bool (isNeg x2), .slice Ay zy.length cy]] W fun e w' => ZOut W w' (r / r2 * x2) e) := fun W hW => ((zn_of nk rk lk).zh.next hW).mul ((zn_of ny ry ly).zh.next hW) (by omega) (by omega)
          have SB : Hid (∀ (zm : List Nat) (Am : Option Addr) (cm B9 : Nat) (wo W : World), Below v6.heap.size v6 W → Num 4294967296 zm (r / r2 * x2).natAbs → Res wo B9 61 Am cm (u32s zm) → Below wo.heap.size wo W → Calls Tryz.prog 24 #[.agg #[.bool (isNeg x), .slice Ax zx.length cx], .agg #[.bool (isNeg (r / r2 * x2)), .slice Am zm.length cm]] W fun e w' => ZOut W w' (x - r / r2 * x2) e) := fun zm Am cm B9 wo W hW hn hr hb => by
            have l1 := (zn_of nk rk lk).lt
            have l2 := (zn_of ny ry ly).lt
            exact ((zn_of nx rx lx).zh.next hW).sub ((Zn.shrink (K := N + N) hn hr (zprod_lt l1 l2)).next hb).zh (by omega) (by omega)
          have BX := Lib.hid bx
          have BY := Lib.hid by_
          have BK := Lib.hid bk
          have NY := Lib.hid ny
          have RY := Lib.hid ry
          have LY := Lib.hid ly
          obtain ⟨p0, p1, p2, p3⟩ := bx.two
          obtain ⟨q0, q1, q2, q3⟩ := by_.two
          obtain ⟨t0, t1, _, _⟩ := bk.two
          clear VS VT f6 bx nx rx lx by_ ny ry ly bk nk rk lk FF n1 n2 n3 n4 n5 n6
          have n1 : g9 ≠ g9 + 1 := by omega
          have n2 : g9 + 1 ≠ g9 := by omega
          go_upto_region 8 with (fail)
          refine region_held_tail (fun W => W.cell? ⟨g9 + 1, 0, none⟩ = some (.bool (isNeg x2)) ∧ W.cell? ⟨g9 + 1, 1, none⟩ = some (.slice Ay zy.length cy) ∧ W.cell? ⟨g9, 0, none⟩ = some (.bool (isNeg x)) ∧ W.cell? ⟨g9, 1, none⟩ = some (.slice Ax zx.length cx) ∧ W.cell? ⟨g11, 0, none⟩ = some (.bool (isNeg (r / r2))) ∧ W.cell? ⟨g11, 1, none⟩ = some (.slice Ak zk.length ck)) 6 (by kernel_rfl) (by kernel_rfl) ?hSt1 (fun hHeld => ?_)
          case hSt1 => (try dsimp only); go_keep
          refine HeadW.take (i := 0) (v := ?v0t1) rfl (by kernel_rfl) (by decide) (by kernel_rfl) (by kernel_rfl) (fun _ _ _ h => h) (Or.inl ⟨by rfl, ?hy0t1⟩) (by assumption) ?rest0t1
          case hy0t1 => intro w hSw; (try dsimp only at hSw); (try simp only [List.getElem_toArray, List.getElem_cons_zero]); go_simp; (try with_reducible rfl)
          (try simp only [List.getElem_toArray, List.getElem_cons_zero, Act.put, List.setIfInBounds_toArray, List.set_cons_zero, List.set_cons_succ])
          refine HeadW.take (i := 1) (v := ?v1t1) rfl (by kernel_rfl) (by decide) (by kernel_rfl) (by kernel_rfl) (fun _ _ _ h => h) (Or.inl ⟨by rfl, ?hy1t1⟩) (by assumption) ?rest1t1
          case hy1t1 => intro w hSw; (try dsimp only at hSw); (try simp only [List.getElem_toArray, List.getElem_cons_succ, List.getElem_cons_zero]); go_simp; (try with_reducible rfl)
          (try simp only [List.getElem_toArray, List.getElem_cons_succ, List.getElem_cons_zero, Act.put, List.setIfInBounds_toArray, List.set_cons_zero, List.set_cons_succ])
          refine HeadW.take (i := 2) (v := ?v2t1) rfl (by kernel_rfl) (by decide) (by kernel_rfl) (by kernel_rfl) (fun _ _ _ h => h) (Or.inl ⟨by rfl, ?hy2t1⟩) (by assumption) ?rest2t1
          case hy2t1 => intro w hSw; (try dsimp only at hSw); (try simp only [List.getElem_toArray, List.getElem_cons_succ, List.getElem_cons_zero]); go_simp; (try with_reducible rfl)
          (try simp only [List.getElem_toArray, List.getElem_cons_succ, List.getElem_cons_zero, Act.put, List.setIfInBounds_toArray, List.set_cons_zero, List.set_cons_succ])
          refine HeadW.take (i := 3) (v := ?v3t1) rfl (by kernel_rfl) (by decide) (by kernel_rfl) (by kernel_rfl) (fun _ _ _ h => h) (Or.inl ⟨by rfl, ?hy3t1⟩) (by assumption) ?rest3t1
          case hy3t1 => intro w hSw; (try dsimp only at hSw); (try simp only [List.getElem_toArray, List.getElem_cons_succ, List.getElem_cons_zero]); go_simp; (try with_reducible rfl)
          (try simp only [List.getElem_toArray, List.getElem_cons_succ, List.getElem_cons_zero, Act.put, List.setIfInBounds_toArray, List.set_cons_zero, List.set_cons_succ])
          refine HeadW.one (i := 4) (by kernel_rfl) (by decide) rfl (fun K hK => ?_)
          go_simp
          (go_at_call 23; (with_reducible refine (ML.out _ (by repeat (first | exact Below.refl _ _ | exact jm | exact jb | apply bdw | (refine bdn ?_ _) | (refine bal ?_ (Nat.le_refl _) _)))).mono ?_); rintro e wm ⟨zm, Am, cm, rfl, hzm, hrm, hbm⟩; have jm : Below v6.heap.size v6 wm := bst (by repeat (first | exact Below.refl _ _ | exact jm | exact jb | apply bdw | (refine bdn ?_ _) | (refine bal ?_ (Nat.le_refl _) _))) hbm (Nat.le_refl _); obtain ⟨x0m, y0m, u0m, v0m⟩ := (BY.out.below jm BY.out.lt).two; obtain ⟨x1m, y1m, u1m, v1m⟩ := (BX.out.below jm BX.out.lt).two; obtain ⟨x2m, y2m, _, _⟩ := (BK.out.below jm BK.out.lt).two)
          (try go_wp2_with fail)
          refine hK.out _ _ ?hS4t1 (fun hHeld2 => ?_)
          case hS4t1 => (try dsimp only); go_keep
          clear hK K hHeld
          have hHeld := hHeld2
          clear hHeld2
          (try simp only [List.getElem_toArray, List.getElem_cons_succ, List.getElem_cons_zero, Act.put, List.setIfInBounds_toArray, List.set_cons_zero, List.set_cons_succ])
          refine HeadW.one (i := 5) (by kernel_rfl) (by decide) rfl (fun K hK => ?_)
          go_simp
          (go_at_call 24; (with_reducible refine (SB.out zm Am cm _ wm _ (by repeat (first | exact Below.refl _ _ | exact jm | exact jb | apply bdw | (refine bdn ?_ _) | (refine bal ?_ (Nat.le_refl _) _))) hzm hrm (by repeat (first | exact Below.refl _ _ | apply bdw | (refine bdn ?_ _)))).mono ?_); rintro e wb ⟨zb, Ab, cb, rfl, hzb, hrb, hbb⟩; have jb : Below v6.heap.size v6 wb := bst (by repeat (first | exact Below.refl _ _ | exact jm | exact jb | apply bdw | (refine bdn ?_ _) | (refine bal ?_ (Nat.le_refl _) _))) hbb (Nat.le_refl _); obtain ⟨x0b, y0b, u0b, v0b⟩ := (BY.out.below jb BY.out.lt).two; obtain ⟨x1b, y1b, u1b, v1b⟩ := (BX.out.below jb BX.out.lt).two; obtain ⟨x2b, y2b, _, _⟩ := (BK.out.below jb BK.out.lt).two)
          (try go_wp2_with fail)
          refine hK.out _ _ ?hS5t1 (fun hHeld2 => ?_)
          case hS5t1 => (try dsimp only); go_keep
          clear hK K hHeld
          have hHeld := hHeld2
          clear hHeld2
          (try simp only [List.getElem_toArray, List.getElem_cons_succ, List.getElem_cons_zero, Act.put, List.setIfInBounds_toArray, List.set_cons_zero, List.set_cons_succ])
          refine HeadW.done (by kernel_rfl) ?_
          simp only [List.drop_succ_cons, List.drop_zero]
          go_wp2_with fail
          have XL : (x - r / r2 * x2).natAbs < 4294967296 ^ N := Nat.lt_of_le_of_lt EN.out.bx2 LB.out
          have bx := BX.out.below jb BX.out.lt
          have by_ := BY.out.below jb BY.out.lt
          have F := vr_two (B := w.heap.size) bx by_ n1 NY.out (RY.out.below jb (Nat.le_refl _)) LY.out hzb (hrb.mono (Nat.le_trans s6 jm.size)) (num32_len hzb (Nat.le_refl _) XL)
          go_roundg (r % r2).natAbs
          case rel => exact ⟨r2, r % r2, x2, x - r / r2 * x2, (FF6.out.next jb).set4 (by omega) (by omega), ⟨(HVS.out.next jb).other4 bx by_ n2 (by omega) (by omega), (HVT.out.next jb).other4 bx by_ n2 (by omega) (by omega), F.1, F.2⟩, EN.out, Nat.le_refl _⟩
          case measure => have := HK9.out; have := RL2.out; omega
end
end Go.Proofs.YtanlejlmckdeiaaGreatDoor
