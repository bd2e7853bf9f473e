/- The walk of the law PrimeOf. Conditions: at most 2^20 limbs each; the library's table and the bases as they are laid. -/
import Derived.Test.YtcfalkcceanldaaGreatDoorPkPo48
namespace Go.Proofs.YtcfalkcceanldaaGreatDoor
open Go.RowKit

section
variable {w : World} {g g2 g3 : Bool} {A A2 A3 : Option Addr} {c c2 c3 K : Nat} {xs ys us : List Nat} {z y x : Int}
set_option maxHeartbeats 3200000 in
theorem of_none (p : Nat) (hlt : p < 4294967296) (hw : Bases w) (hB : 0 < w.heap.size) (hp : ¬ Pr p)
    (OF : Hid (∀ W (_ : Below w.heap.size w W), Calls Tryz.prog 4 #[.agg #[.bool g3, .slice A3 us.length c3], .int .u32 (p : Int)] W fun e w' => e = .returned (.tuple #[.int .u32 0, .int .i64 40]) ∧ Below W.heap.size W w'))
    (RT : Hid (∀ W (_ : Below w.heap.size w W), Calls Tryz.prog 5 #[.agg #[.bool g, .slice A xs.length c, .bool g2, .slice A2 ys.length c2], .int .u32 (p : Int)] W fun e w' => e = .returned (.tuple #[.int .u32 0, .int .i64 40]) ∧ Below W.heap.size W w')) :
    Calls Tryz.prog 3 #[.agg #[.bool g3, .slice A3 us.length c3], .agg #[.bool g, .slice A xs.length c, .bool g2, .slice A2 ys.length c2], .int .u32 (p : Int)] w fun e w' => e = .returned (.bool true) ∧ Below w.heap.size w w' := by
  have BS : Hid (∀ W (_ : Below w.heap.size w W), Bases W) := fun W hW => hw.next hW hB
  have IS := Lib.hid (fun W => ris_no p hp hlt W)
  have k0 := bel_two w (.cells #[.bool g3, .slice A3 us.length c3] 25) (.cells #[.bool g, .slice A xs.length c, .bool g2, .slice A2 ys.length c2] 27)
  have b0 : Blk ((w.alloc (.cells #[.bool g3, .slice A3 us.length c3] 25)).alloc (.cells #[.bool g, .slice A xs.length c, .bool g2, .slice A2 ys.length c2] 27)) w.heap.size 25 [.bool g3, .slice A3 us.length c3] := (blk_one w (.bool g3) (.slice A3 us.length c3)).heapAlloc _
  have r0 : Blk ((w.alloc (.cells #[.bool g3, .slice A3 us.length c3] 25)).alloc (.cells #[.bool g, .slice A xs.length c, .bool g2, .slice A2 ys.length c2] 27)) (w.heap.size + 1) 27 [.bool g, .slice A xs.length c, .bool g2, .slice A2 ys.length c2] := by
    have := Blk.new_ (w := w.alloc (.cells #[.bool g3, .slice A3 us.length c3] 25)) (t := 27) (cs := #[.bool g, .slice A xs.length c, .bool g2, .slice A2 ys.length c2]) (vs := [.bool g, .slice A xs.length c, .bool g2, .slice A2 ys.length c2]) rfl
    simpa using this
  obtain ⟨w0, hw0⟩ : ∃ v, v = (w.alloc (.cells #[.bool g3, .slice A3 us.length c3] 25)).alloc (.cells #[.bool g, .slice A xs.length c, .bool g2, .slice A2 ys.length c2] 27) := ⟨_, rfl⟩
  rw [← hw0] at k0 b0 r0
  clear hw hB
  obtain ⟨q0, q1, _, _⟩ := b0.two
  obtain ⟨p0, p1, p2, p3, _, _, _, _⟩ := r0.four
  go_enter Tryz.func3, Tryz.ntmps3
  go_upto_region 1 with fail
  rw [← hw0]
  clear hw0
  go_wp2_with fail
  refine (OF.out _ k0).mono ?_
  rintro e w1 ⟨rfl, hb1⟩
  have k1 := bst k0 hb1 (Nat.le_refl _)
  have b1 := b0.below hb1 b0.lt
  have r1 := r0.below hb1 r0.lt
  clear q0 q1 p0 p1 p2 p3 OF hb1 b0 r0 k0
  obtain ⟨q0, q1, _, _⟩ := b1.two
  obtain ⟨p0, p1, p2, p3, _, _, _, _⟩ := r1.four
  go_wp2_with fail
  refine (RT.out _ k1).mono ?_
  rintro e w2 ⟨rfl, hb2⟩
  have k2 := bst k1 hb2 (Nat.le_refl _)
  have b2 := b1.below hb2 b1.lt
  have r2 := r1.below hb2 r1.lt
  clear q0 q1 p0 p1 p2 p3 RT hb2 b1 r1 k1
  obtain ⟨q0, q1, _, _⟩ := b2.two
  obtain ⟨p0, p1, p2, p3, _, _, _, _⟩ := r2.four
  go_wp2_with fail
  refine (IS.out _).mono ?_
  rintro e w3 ⟨rfl, rfl⟩
  clear IS
  go_wp2_with fail
  refine (told_error 0 40 _ (by decide)).mono ?_
  rintro e w4 ⟨rfl, rfl⟩
  go_wp2_with fail
  refine (told_error 0 40 _ (by decide)).mono ?_
  rintro e w5 ⟨rfl, rfl⟩
  go_wp2_with fail
  refine (awake_any _ (BS.out _ k2)).mono ?_
  rintro e w9 ⟨rfl, rfl⟩
  go_wp2_with fail
  go_ret
  exact ⟨rfl, k2⟩
set_option maxHeartbeats 3200000 in
theorem of_den (p : Nat) (hlt : p < 4294967296) (hw : Bases w) (hB : 0 < w.heap.size) (hp : Pr p) (xv : Nat) (sg : Int) (RO : Hid (∀ W (_ : Below w.heap.size w W), Calls Tryz.prog 9 #[.agg #[.bool g3, .slice A3 us.length c3], .int .u32 (p : Int)] W fun e w' => e = .returned (.int .u32 (xv : Int)) ∧ Below W.heap.size W w')) (SG : Hid (∀ W (_ : Below w.heap.size w W), Calls Tryz.prog 10 #[.agg #[.bool g2, .slice A2 ys.length c2]] W fun e w' => e = .returned (.int .i64 sg) ∧ Below W.heap.size W w')) (hs : (sg == 0) = true)
    (OF : Hid (∀ W (_ : Below w.heap.size w W), Calls Tryz.prog 4 #[.agg #[.bool g3, .slice A3 us.length c3], .int .u32 (p : Int)] W fun e w' => e = .returned (.tuple #[.int .u32 (xv : Int), .int .i64 0]) ∧ Below W.heap.size W w'))
    (RT : Hid (∀ W (_ : Below w.heap.size w W), Calls Tryz.prog 5 #[.agg #[.bool g, .slice A xs.length c, .bool g2, .slice A2 ys.length c2], .int .u32 (p : Int)] W fun e w' => e = .returned (.tuple #[.int .u32 0, .int .i64 6]) ∧ Below W.heap.size W w')) :
    Calls Tryz.prog 3 #[.agg #[.bool g3, .slice A3 us.length c3], .agg #[.bool g, .slice A xs.length c, .bool g2, .slice A2 ys.length c2], .int .u32 (p : Int)] w fun e w' => e = .returned (.bool true) ∧ Below w.heap.size w w' := by
  have BS : Hid (∀ W (_ : Below w.heap.size w W), Bases W) := fun W hW => hw.next hW hB
  have IS := Lib.hid (fun W => ris_yes p hp hlt W)
  have k0 := bel_two w (.cells #[.bool g3, .slice A3 us.length c3] 25) (.cells #[.bool g, .slice A xs.length c, .bool g2, .slice A2 ys.length c2] 27)
  have b0 : Blk ((w.alloc (.cells #[.bool g3, .slice A3 us.length c3] 25)).alloc (.cells #[.bool g, .slice A xs.length c, .bool g2, .slice A2 ys.length c2] 27)) w.heap.size 25 [.bool g3, .slice A3 us.length c3] := (blk_one w (.bool g3) (.slice A3 us.length c3)).heapAlloc _
  have r0 : Blk ((w.alloc (.cells #[.bool g3, .slice A3 us.length c3] 25)).alloc (.cells #[.bool g, .slice A xs.length c, .bool g2, .slice A2 ys.length c2] 27)) (w.heap.size + 1) 27 [.bool g, .slice A xs.length c, .bool g2, .slice A2 ys.length c2] := by
    have := Blk.new_ (w := w.alloc (.cells #[.bool g3, .slice A3 us.length c3] 25)) (t := 27) (cs := #[.bool g, .slice A xs.length c, .bool g2, .slice A2 ys.length c2]) (vs := [.bool g, .slice A xs.length c, .bool g2, .slice A2 ys.length c2]) rfl
    simpa using this
  obtain ⟨w0, hw0⟩ : ∃ v, v = (w.alloc (.cells #[.bool g3, .slice A3 us.length c3] 25)).alloc (.cells #[.bool g, .slice A xs.length c, .bool g2, .slice A2 ys.length c2] 27) := ⟨_, rfl⟩
  rw [← hw0] at k0 b0 r0
  clear hw hB
  obtain ⟨q0, q1, _, _⟩ := b0.two
  obtain ⟨p0, p1, p2, p3, _, _, _, _⟩ := r0.four
  go_enter Tryz.func3, Tryz.ntmps3
  go_upto_region 1 with fail
  rw [← hw0]
  clear hw0
  go_wp2_with fail
  refine (OF.out _ k0).mono ?_
  rintro e w1 ⟨rfl, hb1⟩
  have k1 := bst k0 hb1 (Nat.le_refl _)
  have b1 := b0.below hb1 b0.lt
  have r1 := r0.below hb1 r0.lt
  clear q0 q1 p0 p1 p2 p3 OF hb1 b0 r0 k0
  obtain ⟨q0, q1, _, _⟩ := b1.two
  obtain ⟨p0, p1, p2, p3, _, _, _, _⟩ := r1.four
  go_wp2_with fail
  refine (RT.out _ k1).mono ?_
  rintro e w2 ⟨rfl, hb2⟩
  have k2 := bst k1 hb2 (Nat.le_refl _)
  have b2 := b1.below hb2 b1.lt
  have r2 := r1.below hb2 r1.lt
  clear q0 q1 p0 p1 p2 p3 RT hb2 b1 r1 k1
  obtain ⟨q0, q1, _, _⟩ := b2.two
  obtain ⟨p0, p1, p2, p3, _, _, _, _⟩ := r2.four
  go_wp2_with fail
  refine (IS.out _).mono ?_
  rintro e w3 ⟨rfl, rfl⟩
  clear IS
  go_wp2_with fail
  refine (RO.out _ k2).mono ?_
  rintro e w4 ⟨rfl, hb4⟩
  have k4 := bst k2 hb4 (Nat.le_refl _)
  have r4 := r2.below hb4 r2.lt
  clear q0 q1 p0 p1 p2 p3 hb4 b2 r2 RO
  obtain ⟨p0, p1, p2, p3, _, _, _, _⟩ := r4.four
  go_wp2_with fail
  refine (told_right xv 0 _ rfl).mono ?_
  rintro e w5 ⟨rfl, rfl⟩
  go_wp2_with fail
  refine (SG.out _ k4).mono ?_
  rintro e w6 ⟨rfl, hb6⟩
  have k6 := bst k4 hb6 (Nat.le_refl _)
  have r6 := r4.below hb6 r4.lt
  clear p0 p1 p2 p3 hb6 r4 SG
  obtain ⟨p0, p1, p2, p3, _, _, _, _⟩ := r6.four
  go_wp2_with fail
  refine (told_error 0 6 _ (by decide)).mono ?_
  rintro e w7 ⟨rfl, rfl⟩
  go_wp2_with fail
  refine (awake_any _ (BS.out _ k6)).mono ?_
  rintro e w9 ⟨rfl, rfl⟩
  go_wp2_with fail
  go_ret
  exact ⟨rfl, k6⟩
set_option maxHeartbeats 3200000 in
theorem of_zero (p : Nat) (hlt : p < 4294967296) (hw : Bases w) (hB : 0 < w.heap.size) (hp : Pr p) (xv : Nat) (sg : Int) (RO : Hid (∀ W (_ : Below w.heap.size w W), Calls Tryz.prog 9 #[.agg #[.bool g3, .slice A3 us.length c3], .int .u32 (p : Int)] W fun e w' => e = .returned (.int .u32 (xv : Int)) ∧ Below W.heap.size W w')) (SG : Hid (∀ W (_ : Below w.heap.size w W), Calls Tryz.prog 10 #[.agg #[.bool g2, .slice A2 ys.length c2]] W fun e w' => e = .returned (.int .i64 sg) ∧ Below W.heap.size W w')) (hs : (sg == 0) = false) (RR : Hid (∀ W (_ : Below w.heap.size w W), Calls Tryz.prog 11 #[.agg #[.bool g, .slice A xs.length c, .bool g2, .slice A2 ys.length c2], .int .u32 (p : Int)] W fun e w' => e = .returned (.tuple #[.int .u32 0, .bool false]) ∧ Below W.heap.size W w'))
    (OF : Hid (∀ W (_ : Below w.heap.size w W), Calls Tryz.prog 4 #[.agg #[.bool g3, .slice A3 us.length c3], .int .u32 (p : Int)] W fun e w' => e = .returned (.tuple #[.int .u32 (xv : Int), .int .i64 0]) ∧ Below W.heap.size W w'))
    (RT : Hid (∀ W (_ : Below w.heap.size w W), Calls Tryz.prog 5 #[.agg #[.bool g, .slice A xs.length c, .bool g2, .slice A2 ys.length c2], .int .u32 (p : Int)] W fun e w' => e = .returned (.tuple #[.int .u32 0, .int .i64 5]) ∧ Below W.heap.size W w')) :
    Calls Tryz.prog 3 #[.agg #[.bool g3, .slice A3 us.length c3], .agg #[.bool g, .slice A xs.length c, .bool g2, .slice A2 ys.length c2], .int .u32 (p : Int)] w fun e w' => e = .returned (.bool true) ∧ Below w.heap.size w w' := by
  have BS : Hid (∀ W (_ : Below w.heap.size w W), Bases W) := fun W hW => hw.next hW hB
  have IS := Lib.hid (fun W => ris_yes p hp hlt W)
  have k0 := bel_two w (.cells #[.bool g3, .slice A3 us.length c3] 25) (.cells #[.bool g, .slice A xs.length c, .bool g2, .slice A2 ys.length c2] 27)
  have b0 : Blk ((w.alloc (.cells #[.bool g3, .slice A3 us.length c3] 25)).alloc (.cells #[.bool g, .slice A xs.length c, .bool g2, .slice A2 ys.length c2] 27)) w.heap.size 25 [.bool g3, .slice A3 us.length c3] := (blk_one w (.bool g3) (.slice A3 us.length c3)).heapAlloc _
  have r0 : Blk ((w.alloc (.cells #[.bool g3, .slice A3 us.length c3] 25)).alloc (.cells #[.bool g, .slice A xs.length c, .bool g2, .slice A2 ys.length c2] 27)) (w.heap.size + 1) 27 [.bool g, .slice A xs.length c, .bool g2, .slice A2 ys.length c2] := by
    have := Blk.new_ (w := w.alloc (.cells #[.bool g3, .slice A3 us.length c3] 25)) (t := 27) (cs := #[.bool g, .slice A xs.length c, .bool g2, .slice A2 ys.length c2]) (vs := [.bool g, .slice A xs.length c, .bool g2, .slice A2 ys.length c2]) rfl
    simpa using this
  obtain ⟨w0, hw0⟩ : ∃ v, v = (w.alloc (.cells #[.bool g3, .slice A3 us.length c3] 25)).alloc (.cells #[.bool g, .slice A xs.length c, .bool g2, .slice A2 ys.length c2] 27) := ⟨_, rfl⟩
  rw [← hw0] at k0 b0 r0
  clear hw hB
  obtain ⟨q0, q1, _, _⟩ := b0.two
  obtain ⟨p0, p1, p2, p3, _, _, _, _⟩ := r0.four
  go_enter Tryz.func3, Tryz.ntmps3
  go_upto_region 1 with fail
  rw [← hw0]
  clear hw0
  go_wp2_with fail
  refine (OF.out _ k0).mono ?_
  rintro e w1 ⟨rfl, hb1⟩
  have k1 := bst k0 hb1 (Nat.le_refl _)
  have b1 := b0.below hb1 b0.lt
  have r1 := r0.below hb1 r0.lt
  clear q0 q1 p0 p1 p2 p3 OF hb1 b0 r0 k0
  obtain ⟨q0, q1, _, _⟩ := b1.two
  obtain ⟨p0, p1, p2, p3, _, _, _, _⟩ := r1.four
  go_wp2_with fail
  refine (RT.out _ k1).mono ?_
  rintro e w2 ⟨rfl, hb2⟩
  have k2 := bst k1 hb2 (Nat.le_refl _)
  have b2 := b1.below hb2 b1.lt
  have r2 := r1.below hb2 r1.lt
  clear q0 q1 p0 p1 p2 p3 RT hb2 b1 r1 k1
  obtain ⟨q0, q1, _, _⟩ := b2.two
  obtain ⟨p0, p1, p2, p3, _, _, _, _⟩ := r2.four
  go_wp2_with fail
  refine (IS.out _).mono ?_
  rintro e w3 ⟨rfl, rfl⟩
  clear IS
  go_wp2_with fail
  refine (RO.out _ k2).mono ?_
  rintro e w4 ⟨rfl, hb4⟩
  have k4 := bst k2 hb4 (Nat.le_refl _)
  have r4 := r2.below hb4 r2.lt
  clear q0 q1 p0 p1 p2 p3 hb4 b2 r2 RO
  obtain ⟨p0, p1, p2, p3, _, _, _, _⟩ := r4.four
  go_wp2_with fail
  refine (told_right xv 0 _ rfl).mono ?_
  rintro e w5 ⟨rfl, rfl⟩
  go_wp2_with fail
  refine (SG.out _ k4).mono ?_
  rintro e w6 ⟨rfl, hb6⟩
  have k6 := bst k4 hb6 (Nat.le_refl _)
  have r6 := r4.below hb6 r4.lt
  clear p0 p1 p2 p3 hb6 r4 SG
  obtain ⟨p0, p1, p2, p3, _, _, _, _⟩ := r6.four
  go_wp2_with fail
  refine (RR.out _ k6).mono ?_
  rintro e w7 ⟨rfl, hb7⟩
  have k7 := bst k6 hb7 (Nat.le_refl _)
  clear p0 p1 p2 p3 hb7 r6 RR
  go_wp2_with fail
  refine (told_error 0 5 _ (by decide)).mono ?_
  rintro e w8 ⟨rfl, rfl⟩
  go_wp2_with fail
  refine (awake_any _ (BS.out _ k7)).mono ?_
  rintro e w9 ⟨rfl, rfl⟩
  go_wp2_with fail
  go_ret
  exact ⟨rfl, k7⟩
set_option maxHeartbeats 3200000 in
theorem of_val (p : Nat) (hlt : p < 4294967296) (hw : Bases w) (hB : 0 < w.heap.size) (hp : Pr p) (xv : Nat) (sg : Int) (RO : Hid (∀ W (_ : Below w.heap.size w W), Calls Tryz.prog 9 #[.agg #[.bool g3, .slice A3 us.length c3], .int .u32 (p : Int)] W fun e w' => e = .returned (.int .u32 (xv : Int)) ∧ Below W.heap.size W w')) (SG : Hid (∀ W (_ : Below w.heap.size w W), Calls Tryz.prog 10 #[.agg #[.bool g2, .slice A2 ys.length c2]] W fun e w' => e = .returned (.int .i64 sg) ∧ Below W.heap.size W w')) (hs : (sg == 0) = false) (qv : Nat) (RR : Hid (∀ W (_ : Below w.heap.size w W), Calls Tryz.prog 11 #[.agg #[.bool g, .slice A xs.length c, .bool g2, .slice A2 ys.length c2], .int .u32 (p : Int)] W fun e w' => e = .returned (.tuple #[.int .u32 (qv : Int), .bool true]) ∧ Below W.heap.size W w'))
    (OF : Hid (∀ W (_ : Below w.heap.size w W), Calls Tryz.prog 4 #[.agg #[.bool g3, .slice A3 us.length c3], .int .u32 (p : Int)] W fun e w' => e = .returned (.tuple #[.int .u32 (xv : Int), .int .i64 0]) ∧ Below W.heap.size W w'))
    (RT : Hid (∀ W (_ : Below w.heap.size w W), Calls Tryz.prog 5 #[.agg #[.bool g, .slice A xs.length c, .bool g2, .slice A2 ys.length c2], .int .u32 (p : Int)] W fun e w' => e = .returned (.tuple #[.int .u32 (qv : Int), .int .i64 0]) ∧ Below W.heap.size W w')) :
    Calls Tryz.prog 3 #[.agg #[.bool g3, .slice A3 us.length c3], .agg #[.bool g, .slice A xs.length c, .bool g2, .slice A2 ys.length c2], .int .u32 (p : Int)] w fun e w' => e = .returned (.bool true) ∧ Below w.heap.size w w' := by
  have BS : Hid (∀ W (_ : Below w.heap.size w W), Bases W) := fun W hW => hw.next hW hB
  have IS := Lib.hid (fun W => ris_yes p hp hlt W)
  have k0 := bel_two w (.cells #[.bool g3, .slice A3 us.length c3] 25) (.cells #[.bool g, .slice A xs.length c, .bool g2, .slice A2 ys.length c2] 27)
  have b0 : Blk ((w.alloc (.cells #[.bool g3, .slice A3 us.length c3] 25)).alloc (.cells #[.bool g, .slice A xs.length c, .bool g2, .slice A2 ys.length c2] 27)) w.heap.size 25 [.bool g3, .slice A3 us.length c3] := (blk_one w (.bool g3) (.slice A3 us.length c3)).heapAlloc _
  have r0 : Blk ((w.alloc (.cells #[.bool g3, .slice A3 us.length c3] 25)).alloc (.cells #[.bool g, .slice A xs.length c, .bool g2, .slice A2 ys.length c2] 27)) (w.heap.size + 1) 27 [.bool g, .slice A xs.length c, .bool g2, .slice A2 ys.length c2] := by
    have := Blk.new_ (w := w.alloc (.cells #[.bool g3, .slice A3 us.length c3] 25)) (t := 27) (cs := #[.bool g, .slice A xs.length c, .bool g2, .slice A2 ys.length c2]) (vs := [.bool g, .slice A xs.length c, .bool g2, .slice A2 ys.length c2]) rfl
    simpa using this
  obtain ⟨w0, hw0⟩ : ∃ v, v = (w.alloc (.cells #[.bool g3, .slice A3 us.length c3] 25)).alloc (.cells #[.bool g, .slice A xs.length c, .bool g2, .slice A2 ys.length c2] 27) := ⟨_, rfl⟩
  rw [← hw0] at k0 b0 r0
  clear hw hB
  obtain ⟨q0, q1, _, _⟩ := b0.two
  obtain ⟨p0, p1, p2, p3, _, _, _, _⟩ := r0.four
  go_enter Tryz.func3, Tryz.ntmps3
  go_upto_region 1 with fail
  rw [← hw0]
  clear hw0
  go_wp2_with fail
  refine (OF.out _ k0).mono ?_
  rintro e w1 ⟨rfl, hb1⟩
  have k1 := bst k0 hb1 (Nat.le_refl _)
  have b1 := b0.below hb1 b0.lt
  have r1 := r0.below hb1 r0.lt
  clear q0 q1 p0 p1 p2 p3 OF hb1 b0 r0 k0
  obtain ⟨q0, q1, _, _⟩ := b1.two
  obtain ⟨p0, p1, p2, p3, _, _, _, _⟩ := r1.four
  go_wp2_with fail
  refine (RT.out _ k1).mono ?_
  rintro e w2 ⟨rfl, hb2⟩
  have k2 := bst k1 hb2 (Nat.le_refl _)
  have b2 := b1.below hb2 b1.lt
  have r2 := r1.below hb2 r1.lt
  clear q0 q1 p0 p1 p2 p3 RT hb2 b1 r1 k1
  obtain ⟨q0, q1, _, _⟩ := b2.two
  obtain ⟨p0, p1, p2, p3, _, _, _, _⟩ := r2.four
  go_wp2_with fail
  refine (IS.out _).mono ?_
  rintro e w3 ⟨rfl, rfl⟩
  clear IS
  go_wp2_with fail
  refine (RO.out _ k2).mono ?_
  rintro e w4 ⟨rfl, hb4⟩
  have k4 := bst k2 hb4 (Nat.le_refl _)
  have r4 := r2.below hb4 r2.lt
  clear q0 q1 p0 p1 p2 p3 hb4 b2 r2 RO
  obtain ⟨p0, p1, p2, p3, _, _, _, _⟩ := r4.four
  go_wp2_with fail
  refine (told_right xv 0 _ rfl).mono ?_
  rintro e w5 ⟨rfl, rfl⟩
  go_wp2_with fail
  refine (SG.out _ k4).mono ?_
  rintro e w6 ⟨rfl, hb6⟩
  have k6 := bst k4 hb6 (Nat.le_refl _)
  have r6 := r4.below hb6 r4.lt
  clear p0 p1 p2 p3 hb6 r4 SG
  obtain ⟨p0, p1, p2, p3, _, _, _, _⟩ := r6.four
  go_wp2_with fail
  refine (RR.out _ k6).mono ?_
  rintro e w7 ⟨rfl, hb7⟩
  have k7 := bst k6 hb7 (Nat.le_refl _)
  clear p0 p1 p2 p3 hb7 r6 RR
  go_wp2_with fail
  refine (told_right qv 0 _ rfl).mono ?_
  rintro e w8 ⟨rfl, rfl⟩
  go_wp2_with fail
  refine (awake_any _ (BS.out _ k7)).mono ?_
  rintro e w9 ⟨rfl, rfl⟩
  go_wp2_with fail
  go_ret
  exact ⟨rfl, k7⟩

theorem primeof_walk (K : Nat) (hK : K ≤ 1048576) (hT : Tab64 w) (hTB : 1 < w.heap.size) (hw : Bases w) (hB : 0 < w.heap.size) (hx : Zh w g3 A3 c3 us x K) (hz : Zh w g A c xs z K) (hy : Zh w g2 A2 c2 ys y K) (p : Nat) (hlt : p < 4294967296) :
    Calls Tryz.prog 3 #[.agg #[.bool g3, .slice A3 us.length c3], .agg #[.bool g, .slice A xs.length c, .bool g2, .slice A2 ys.length c2], .int .u32 (p : Int)] w fun e w' => e = .returned (.bool true) ∧ Below w.heap.size w w' := by
  have BN : ∀ W, Below w.heap.size w W → Bases W ∧ 0 < W.heap.size := fun W hW => ⟨hw.next hW hB, Nat.lt_of_lt_of_le hB hW.size⟩
  by_cases hp : Pr p
  · have hp2 := hp.1
    have OF := Lib.hid (fun W (hW : Below w.heap.size w W) => zof_yes (hx.next hW) (by omega) p hp hlt (BN W hW).1 (BN W hW).2)
    have RO := Lib.hid (fun W (hW : Below w.heap.size w W) => rzof_mod (hx.next hW) (by omega) p (by omega) hlt)
    have SG := Lib.hid (fun W (hW : Below w.heap.size w W) => (hy.next hW).rsign (by omega))
    by_cases h0 : y = 0
    · subst h0
      exact of_den p hlt hw hB hp _ _ RO SG rfl OF (Lib.hid fun W hW => ofrat_den p hp hlt (hy.next hW) (by omega) (BN W hW).1 (BN W hW).2)
    · have hs : (y.sign == 0) = false := beq_eq_false_iff_ne.2 (fun e => h0 (Int.sign_eq_zero_iff_zero.1 e))
      have hBl := zmd_lt (p := p) (by omega) (Int.tdiv y (Int.gcd z y : Nat))
      have hAl := zmd_lt (p := p) (by omega) (Int.tdiv z (Int.gcd z y : Nat))
      by_cases h1 : ofB p z y = 0
      · have h2 := ofB_zero hp h0 h1
        exact of_zero p hlt hw hB hp _ _ RO SG hs (Lib.hid fun W hW => rofrat_zero p hp hlt (hz.next hW) (hy.next hW) (by omega) h0 h1) OF (Lib.hid fun W hW => ofrat_reduced p hp hlt (hz.next hW) (hy.next hW) (by omega) h0 (BN W hW).1 (BN W hW).2 (hT.below hW hTB) (Nat.lt_of_lt_of_le hTB hW.size) h2 0 5 (Lib.hid fun V hV => pquo_zero _ _ p hp hlt (by rw [h1]; exact Nat.zero_mod _) V (hw.next (bst hW hV (Nat.le_refl _)) hB)))
      · have h1m : ofB p z y % p ≠ 0 := by
          have : ofB p z y < p := hBl
          rw [Nat.mod_eq_of_lt this]; exact h1
        have hAl2 : ofA p z y < p := hAl
        refine of_val p hlt hw hB hp _ _ RO SG hs _ (Lib.hid fun W hW => rofrat_val p hp hlt (hz.next hW) (hy.next hW) (by omega) h0 h1) OF (Lib.hid fun W hW => ?_)
        by_cases h2 : zmd p y = 0
        · exact ofrat_reduced p hp hlt (hz.next hW) (hy.next hW) (by omega) h0 (BN W hW).1 (BN W hW).2 (hT.below hW hTB) (Nat.lt_of_lt_of_le hTB hW.size) h2 (ofQ p z y) 0 (Lib.hid fun V hV => pquo_yes _ _ p (by omega) hp hlt h1m V (hw.next (bst hW hV (Nat.le_refl _)) hB))
        · exact ofrat_direct p hp hlt (hz.next hW) (hy.next hW) (by omega) h0 (BN W hW).1 (BN W hW).2 h2
  · exact of_none p hlt hw hB hp (Lib.hid fun W hW => zof_no p hp hlt (BN W hW).1 (BN W hW).2) (Lib.hid fun W hW => ofrat_no p hp hlt (BN W hW).1 (BN W hW).2)
end
end Go.Proofs.YtcfalkcceanldaaGreatDoor
