/- What a function does that answers a fraction; the contracts . The contracts of rat.Add, rat.Sub, rat.Quo and rat.Inv. The contracts of the reference's Add, Sub, Inv, Quo, Sign, O. The contracts of the laws' own frac, some, same, told and li. -/
import Derived.Test.YtbcphifjcaobfaaGreatDoorPkRp37
namespace Go.Proofs.YtbcphifjcaobfaaGreatDoor
section
open Go.RowKit
theorem ne_ru : 27 ≠ 50 := by decide
section
variable {fn : Func} {a : Act} {w W : World} {p q : Tmp} {r B : Nat} {x y z u s0 s1 s2 s3 : Value} {n m er : Int}
theorem fn4 (hn : FN W B s0 s1 s2 s3 n m) (hB : Blk W r 27 [x, y, z, u]) : FN ((((W.setCell ⟨r, 0, none⟩ s0).setCell ⟨r, 1, none⟩ s1).setCell ⟨r, 2, none⟩ s2).setCell ⟨r, 3, none⟩ s3) B s0 s1 s2 s3 n m :=
 (((hn.var hB ne_ru _).var (hB.set_ 0 s0) ne_ru _).var ((hB.set_ 0 s0).set_ 1 s1) ne_ru _).var (((hB.set_ 0 s0).set_ 1 s1).set_ 2 s2) ne_ru _
def ROB (B : Nat) (w w' : World) (n m : Int) (e : Ending) : Prop := ∃ (s0 : Bool) (s1 : Option Addr) (s2 s3 : Nat) (s4 : Bool) (s5 : Option Addr) (s6 s7 : Nat), e = .returned (.agg #[.bool s0, .slice s1 s2 s3, .bool s4, .slice s5 s6 s7]) ∧ FN w' B (.bool s0) (.slice s1 s2 s3) (.bool s4) (.slice s5 s6 s7) n m ∧ Below w.heap.size w w'
end
section
variable {fn : Func} {a : Act} {w W : World} {p q : Tmp} {r B : Nat} {x y z u : Value} {s0 s4 : Bool} {s1 s5 : Option Addr} {s2 s3 s6 s7 : Nat} {n m er : Int}
theorem rob_ret (hbel : Below w.heap.size w W) (hB : Blk W r 27 [x, y, z, u]) (hr : w.heap.size ≤ r) (hn : FN W B (.bool s0) (.slice s1 s2 s3) (.bool s4) (.slice s5 s6 s7) n m) (hres0 : fn.results = #[.cell p 27]) (hp : a.tmps.getD p undef = .pointer (some ⟨r, 0, none⟩)) (hd : a.defers = []) :
  bodyPost Tryz.prog fn (fun e w' => ROB B w w' n m e) .ret a ((((W.setCell ⟨r, 0, none⟩ (.bool s0)).setCell ⟨r, 1, none⟩ (.slice s1 s2 s3)).setCell ⟨r, 2, none⟩ (.bool s4)).setCell ⟨r, 3, none⟩ (.slice s5 s6 s7)) :=
 bodyPost_ret (results_cell_row hres0 _ _ r 27 _ (0, 0) _ hp (blk_quad hB _ _ _ _) Tryz.underlying27 rfl (by kernel_rfl)) hd
  ⟨_, _, _, _, _, _, _, _, rfl, fn4 hn hB, bsc (bsc (bsc (bsc hbel hr _) hr _) hr _) hr _⟩
theorem ro_ret (hbel : Below w.heap.size w W) (hB : Blk W r 27 [x, y, z, u]) (hr : w.heap.size ≤ r) (hn : FN W w.heap.size (.bool s0) (.slice s1 s2 s3) (.bool s4) (.slice s5 s6 s7) n m) (hres0 : fn.results = #[.cell p 27]) (hp : a.tmps.getD p undef = .pointer (some ⟨r, 0, none⟩)) (hd : a.defers = []) :
  bodyPost Tryz.prog fn (fun e w' => RO w w' n m e) .ret a ((((W.setCell ⟨r, 0, none⟩ (.bool s0)).setCell ⟨r, 1, none⟩ (.slice s1 s2 s3)).setCell ⟨r, 2, none⟩ (.bool s4)).setCell ⟨r, 3, none⟩ (.slice s5 s6 s7)) := rob_ret hbel hB hr hn hres0 hp hd
theorem re_ret (hbel : Below w.heap.size w W) (hB : Blk W r 27 [x, y, z, u]) (hr : w.heap.size ≤ r) (hn : FN W w.heap.size (.bool s0) (.slice s1 s2 s3) (.bool s4) (.slice s5 s6 s7) n m) (hres0 : fn.results = #[.cell p 27, .tmp q]) (hp : a.tmps.getD p undef = .pointer (some ⟨r, 0, none⟩)) (hq : a.tmps.getD q undef = .int .i64 er) (hd : a.defers = []) :
  bodyPost Tryz.prog fn (fun e w' => RE w w' n m er e) .ret a ((((W.setCell ⟨r, 0, none⟩ (.bool s0)).setCell ⟨r, 1, none⟩ (.slice s1 s2 s3)).setCell ⟨r, 2, none⟩ (.bool s4)).setCell ⟨r, 3, none⟩ (.slice s5 s6 s7)) :=
 bodyPost_ret (results_rs hres0 hp (blk_quad hB _ _ _ _)) hd
  ⟨_, _, _, _, _, _, _, _, by rw [hq], fn4 hn hB, bsc (bsc (bsc (bsc hbel hr _) hr _) hr _) hr _⟩
end
theorem blk_ir (w : World) (x y a b c d : Value) :
  Blk ((w.alloc (.cells #[x, y] 25)).alloc (.cells #[a, b, c, d] 27)) w.heap.size 25 [x, y] ∧
  Blk ((w.alloc (.cells #[x, y] 25)).alloc (.cells #[a, b, c, d] 27)) (w.heap.size + 1) 27 [a, b, c, d] := by
 refine ⟨(Blk.new_ rfl).heapAlloc _, ?_⟩
 have h := Blk.new_ (w := w.alloc (.cells #[x, y] 25)) (t := 27) (cs := #[a, b, c, d]) (vs := [a, b, c, d]) rfl
 simpa using h
section
variable {w : World} {B B2 gp gq : Nat} {p q a0 a1 a2 a3 b0 b1 b2 b3 : Value} {z y x v : Int} {K : Nat}
set_option maxHeartbeats 3200000 in
theorem whole9_any {i0 : Bool} {i1 : Option Addr} {i2 i3 : Nat} (hp : IN w B (.bool i0) (.slice i1 i2 i3) z) (hB : B ≤ w.heap.size) : Calls Tryz.prog 74 #[.agg #[.bool i0, .slice i1 i2 i3]] w fun e w' => ROB B w w' z 1 e := by
 obtain ⟨b0, r0⟩ := blk_ir w (.bool i0) (.slice i1 i2 i3) (.bool false) (.slice none 0 0) (.bool false) (.slice none 0 0)
 have k0 := bel_two w (.cells #[.bool i0, .slice i1 i2 i3] 25) (.cells #[.bool false, .slice none 0 0, .bool false, .slice none 0 0] 27)
 have HP := hi9 hp
 have n1 : w.heap.size ≠ w.heap.size + 1 := by omega
 have n3 := Ne.symm n1
 clear hp
 go_enter Tryz.func74, Tryz.ntmps74
 go_upto_region 1 with fail
 obtain ⟨w0, hw0⟩ : ∃ v, v = (w.alloc (.cells #[.bool i0, .slice i1 i2 i3] 25)).alloc (.cells #[.bool false, .slice none 0 0, .bool false, .slice none 0 0] 27) := ⟨_, rfl⟩
 rw [← hw0] at k0 b0 r0 ⊢
 clear hw0
 have H0 := hi9 b0
 have H1 := hi9 r0
 clear b0 r0
 obtain ⟨p0, p1, _, _⟩ := H0.out.two
 obtain ⟨_, _, _, _, r4, r5, r6, r7⟩ := H1.out.four
 go_region_held3 (fun W => W.cell? ⟨w.heap.size, 0, none⟩ = some (.bool i0) ∧ W.cell? ⟨w.heap.size, 1, none⟩ = some (.slice i1 i2 i3)) (go_keep) (first
  | (go_at_call 75; (with_reducible refine (io_of 1 (by decide) (by decide) _).mono ?_); rintro e wa ⟨c0, c1, c2, c3, rfl, na, hba⟩; have ma : Below w0.heap.size w0 wa := bst (by repeat (first | exact br9 | apply bdw | (refine bdn ?_ _) | (refine bal ?_ nl9 _))) hba nl9; obtain ⟨x0a, y0a, f0a, g0a⟩ := (H0.out.below ma H0.out.lt).two; obtain ⟨x1a, y1a, z1a, v1a, f1a, g1a, h1a, j1a⟩ := (H1.out.below ma H1.out.lt).four))
 all_goals
  go_wp2_with fail
  have sz1 := k0.size
  have b9 := H1.out.below ma H1.out.lt
  exact rob_ret (bst k0 ma nl9) b9 (by omega) ⟨(HP.out.next k0).next ma, na.mono (by first | omega | (simp; omega))⟩ rfl rfl rfl
set_option maxHeartbeats 3200000 in
theorem of05_any (n : Int) (h1 : -9223372036854775808 ≤ n) (h2 : n ≤ 9223372036854775807) : Calls Tryz.prog 20 #[.int .i64 n] w fun e w' => RO w w' n 1 e := by
 have k0 := bel_one w (.cells #[.bool false, .slice none 0 0, .bool false, .slice none 0 0] 27)
 have b0 : Blk (w.alloc (.cells #[.bool false, .slice none 0 0, .bool false, .slice none 0 0] 27)) w.heap.size 27 [.bool false, .slice none 0 0, .bool false, .slice none 0 0] := Blk.new_ rfl
 have ZO := hi9 (io_of n h1 h2)
 clear h1 h2
 go_enter Tryz.func20, Tryz.ntmps20
 go_wp2_with fail
 obtain ⟨w0, hw0⟩ : ∃ v, v = w.alloc (.cells #[.bool false, .slice none 0 0, .bool false, .slice none 0 0] 27) := ⟨_, rfl⟩
 rw [← hw0] at k0 b0 ⊢
 clear hw0
 refine (ZO.out _).mono ?_
 rintro e w1 ⟨p0, p1, p2, p3, rfl, n1, hb1⟩
 have k1 := bst k0 hb1 nl9
 have b1 := b0.below hb1 b0.lt
 have WH := hi9 (whole9_any n1 hb1.size)
 have sz0 := k0.size
 have sz1 := hb1.size
 clear n1 ZO k0 hb1 b0
 go_wp2_with fail
 refine WH.out.mono ?_
 rintro e w2 ⟨s0, s1, s2, s3, s4, s5, s6, s7, rfl, n2, hb2⟩
 have k2 := bst k1 hb2 nl9
 have b2 := b1.below hb2 b1.lt
 obtain ⟨_, _, _, _, f0, f1, f2, f3⟩ := b2.four
 clear WH k1 hb2 b1
 go_wp2_with fail
 exact ro_ret k2 b2 nl9 (n2.mono sz0) rfl rfl rfl
end
end
section
open Go.RowKit
theorem blk_rr (w : World) (a0 a1 a2 a3 b0 b1 b2 b3 : Value) :
  Blk ((w.alloc (.cells #[a0, a1, a2, a3] 27)).alloc (.cells #[b0, b1, b2, b3] 27)) w.heap.size 27 [a0, a1, a2, a3] ∧
  Blk ((w.alloc (.cells #[a0, a1, a2, a3] 27)).alloc (.cells #[b0, b1, b2, b3] 27)) (w.heap.size + 1) 27 [b0, b1, b2, b3] := by
 refine ⟨(Blk.new_ rfl).heapAlloc _, ?_⟩
 have h := Blk.new_ (w := w.alloc (.cells #[a0, a1, a2, a3] 27)) (t := 27) (cs := #[b0, b1, b2, b3]) (vs := [b0, b1, b2, b3]) rfl
 simpa using h
section
variable {w : World} {B B2 : Nat} {a0 a1 a2 a3 b0 b1 b2 b3 : Value} {K : Nat} {z y x v n m er : Int} {q r : Rat}
theorem FV.qv (h : FV B w a0 a1 a2 a3 z y K) (hy : y ≠ 0) : QV B w a0 a1 a2 a3 (Rat.divInt z y) K := ⟨z, y, h, hy, rfl⟩
theorem FV.flip {g : Bool} (h : FV B w (.bool g) b1 b2 b3 x v K) : FV w.heap.size w (.bool !g) b1 b2 b3 (-x) v K := by
 obtain ⟨g3, A3, c3, us, e1, rfl, k3⟩ := h.num.open_
 injection e1 with e1
 subst e1
 exact ⟨IV.of_zh k3.flip, h.den.enter⟩
theorem FV.fault (h : FV B w a0 a1 a2 a3 z y K) (h' : FV B2 w b0 b1 b2 b3 x v K) (hK : K ≤ 67108864) {g : Nat} {W : World} (hW : Below w.heap.size w W) (hg : Blk W g 27 [a0, a1, a2, a3, b0, b1, b2, b3]) :
  Calls Tryz.prog 89 #[.slice (some ⟨g, 0, none⟩) 2 2] W fun e w' => e = .returned (.int .i64 (if y = 0 ∨ v = 0 then 6 else 0)) ∧ Below W.heap.size W w' := by
 obtain ⟨g1, A, c1, xs, rfl, rfl, k⟩ := h.num.open_
 obtain ⟨g2, A2, c2, ys, rfl, rfl, k2⟩ := h.den.open_
 obtain ⟨g3, A3, c3, us, rfl, rfl, k3⟩ := h'.num.open_
 obtain ⟨g4, A4, c4, vs, rfl, rfl, k4⟩ := h'.den.open_
 have hr := rl_two (k.next hW) (k2.next hW) (k3.next hW) (k4.next hW) hg
 refine (fault_any (c := 2) [⟨g1, A, c1, xs, z, g2, A2, c2, ys, y⟩, ⟨g3, A3, c3, us, x, g4, A4, c4, vs, v⟩] hr hK (by simp)).mono ?_
 rintro e w' ⟨u, rfl, hu, hb⟩
 refine ⟨?_, hb⟩
 rcases hu with ⟨h1, h2⟩ | ⟨h1, h2⟩
 ·rw [if_pos (bad_two.1 h1), h2]
 ·rw [if_neg (fun h => h1 (bad_two.2 h)), h2]
set_option maxHeartbeats 3200000 in
theorem quo_zero (FA : Hid (∀ W g (_ : Below w.heap.size w W) (_ : Blk W g 27 [a0, a1, a2, a3, b0, b1, b2, b3]), Calls Tryz.prog 89 #[.slice (some ⟨g, 0, none⟩) 2 2] W fun e w' => e = .returned (.int .i64 0) ∧ Below W.heap.size W w'))
  (SG : Hid (∀ W (_ : Below w.heap.size w W), Calls Tryz.prog 63 #[.agg #[b0, b1]] W fun e w' => e = .returned (.int .i64 0) ∧ Below W.heap.size W w')) :
  Calls Tryz.prog 37 #[.agg #[a0, a1, a2, a3], .agg #[b0, b1, b2, b3]] w fun e w' => RE w w' 0 0 5 e := by
 obtain ⟨b0', b1', r0'⟩ := blk_rrr w a0 a1 a2 a3 b0 b1 b2 b3 (.bool false) (.slice none 0 0) (.bool false) (.slice none 0 0)
 have k0 := bel_three w (.cells #[a0, a1, a2, a3] 27) (.cells #[b0, b1, b2, b3] 27) (.cells #[.bool false, .slice none 0 0, .bool false, .slice none 0 0] 27)
 go_enter Tryz.func37, Tryz.ntmps37
 go_upto_region 1 with fail
 obtain ⟨w0, hw0⟩ : ∃ v, v = ((w.alloc (.cells #[a0, a1, a2, a3] 27)).alloc (.cells #[b0, b1, b2, b3] 27)).alloc (.cells #[.bool false, .slice none 0 0, .bool false, .slice none 0 0] 27) := ⟨_, rfl⟩
 rw [← hw0] at k0 b0' b1' r0' ⊢
 clear hw0
 have H0 := hi9 b0'
 have H1 := hi9 b1'
 have R0 := hi9 r0'
 clear b0' b1' r0'
 obtain ⟨p0, p1, p2, p3, _, _, _, _⟩ := H0.out.four
 obtain ⟨q0, q1, q2, q3, _, _, _, _⟩ := H1.out.four
 have j1 := bel_one w0 (.cells #[a0, a1, a2, a3, b0, b1, b2, b3] 27)
 have bs : Blk (w0.alloc (.cells #[a0, a1, a2, a3, b0, b1, b2, b3] 27)) w0.heap.size 27 [a0, a1, a2, a3, b0, b1, b2, b3] := Blk.new_ rfl
 go_wp2_with fail
 refine (FA.out _ _ (bst k0 j1 nl9) bs).mono ?_
 rintro e w1 ⟨rfl, hb1⟩
 have i1 := bst j1 hb1 nl9
 replace H1 := hi9 (H1.out.below i1 H1.out.lt)
 replace R0 := hi9 (R0.out.below i1 R0.out.lt)
 have t1 := k0.size
 have k1 := bst k0 i1 nl9
 clear p0 p1 p2 p3 q0 q1 q2 q3 FA bs j1 hb1 i1
 obtain ⟨q0, q1, q2, q3, _, _, _, _⟩ := H1.out.four
 go_wp2_with fail
 refine (SG.out _ k1).mono ?_
 rintro e w2 ⟨rfl, hb2⟩
 have k2 := bst k1 hb2 nl9
 have b9 := R0.out.below hb2 R0.out.lt
 obtain ⟨_, _, _, _, u0, u1, u2, u3⟩ := b9.four
 clear q0 q1 q2 q3 SG k1 hb2
 go_wp2_with fail
 exact re_ret k2 b9 (by omega) ⟨IN.zero, IN.zero⟩ rfl rfl rfl rfl
set_option maxHeartbeats 3200000 in
theorem quo_via (s : Int) (hs : (s == 0) = false) (FA : Hid (∀ W g (_ : Below w.heap.size w W) (_ : Blk W g 27 [a0, a1, a2, a3, b0, b1, b2, b3]), Calls Tryz.prog 89 #[.slice (some ⟨g, 0, none⟩) 2 2] W fun e w' => e = .returned (.int .i64 0) ∧ Below W.heap.size W w'))
  (SG : Hid (∀ W (_ : Below w.heap.size w W), Calls Tryz.prog 63 #[.agg #[b0, b1]] W fun e w' => e = .returned (.int .i64 s) ∧ Below W.heap.size W w'))
  (MU : Hid (∀ W (_ : Below w.heap.size w W), Calls Tryz.prog 31 #[.agg #[a0, a1, a2, a3], .agg #[b2, b3, b0, b1]] W fun e w' => RE W w' n m er e)) :
  Calls Tryz.prog 37 #[.agg #[a0, a1, a2, a3], .agg #[b0, b1, b2, b3]] w fun e w' => RE w w' n m er e := by
 obtain ⟨b0', b1', r0'⟩ := blk_rrr w a0 a1 a2 a3 b0 b1 b2 b3 (.bool false) (.slice none 0 0) (.bool false) (.slice none 0 0)
 have k0 := bel_three w (.cells #[a0, a1, a2, a3] 27) (.cells #[b0, b1, b2, b3] 27) (.cells #[.bool false, .slice none 0 0, .bool false, .slice none 0 0] 27)
 go_enter Tryz.func37, Tryz.ntmps37
 go_upto_region 1 with fail
 obtain ⟨w0, hw0⟩ : ∃ v, v = ((w.alloc (.cells #[a0, a1, a2, a3] 27)).alloc (.cells #[b0, b1, b2, b3] 27)).alloc (.cells #[.bool false, .slice none 0 0, .bool false, .slice none 0 0] 27) := ⟨_, rfl⟩
 rw [← hw0] at k0 b0' b1' r0' ⊢
 clear hw0
 have H0 := hi9 b0'
 have H1 := hi9 b1'
 have R0 := hi9 r0'
 clear b0' b1' r0'
 obtain ⟨p0, p1, p2, p3, _, _, _, _⟩ := H0.out.four
 obtain ⟨q0, q1, q2, q3, _, _, _, _⟩ := H1.out.four
 have j1 := bel_one w0 (.cells #[a0, a1, a2, a3, b0, b1, b2, b3] 27)
 have bs : Blk (w0.alloc (.cells #[a0, a1, a2, a3, b0, b1, b2, b3] 27)) w0.heap.size 27 [a0, a1, a2, a3, b0, b1, b2, b3] := Blk.new_ rfl
 go_wp2_with fail
 refine (FA.out _ _ (bst k0 j1 nl9) bs).mono ?_
 rintro e w1 ⟨rfl, hb1⟩
 have i1 := bst j1 hb1 nl9
 replace H0 := hi9 (H0.out.below i1 H0.out.lt)
 replace H1 := hi9 (H1.out.below i1 H1.out.lt)
 replace R0 := hi9 (R0.out.below i1 R0.out.lt)
 have t1 := k0.size
 have k1 := bst k0 i1 nl9
 clear p0 p1 p2 p3 q0 q1 q2 q3 FA bs j1 hb1 i1
 obtain ⟨q0, q1, q2, q3, _, _, _, _⟩ := H1.out.four
 go_wp2_with fail
 refine (SG.out _ k1).mono ?_
 rintro e w2 ⟨rfl, hb2⟩
 have k2 := bst k1 hb2 nl9
 replace H0 := hi9 (H0.out.below hb2 H0.out.lt)
 replace H1 := hi9 (H1.out.below hb2 H1.out.lt)
 replace R0 := hi9 (R0.out.below hb2 R0.out.lt)
 clear q0 q1 q2 q3 SG
 obtain ⟨p0, p1, p2, p3, _, _, _, _⟩ := H0.out.four
 obtain ⟨q0, q1, q2, q3, _, _, _, _⟩ := H1.out.four
 have t2 := k1.size
 clear k1 hb2
 go_wp2_with fail
 refine (MU.out _ k2).mono ?_
 rintro e w3 ⟨s0, s1, s2, s3, s4, s5, s6, s7, rfl, nn, hb3⟩
 have b9 := R0.out.below hb3 R0.out.lt
 obtain ⟨_, _, _, _, u0, u1, u2, u3⟩ := b9.four
 have t3 := k2.size
 clear p0 p1 p2 p3 q0 q1 q2 q3 MU
 go_wp2_with fail
 exact re_ret (bst k2 hb3 nl9) b9 (by omega) (nn.mono t3) rfl rfl rfl rfl
theorem q_zero {z y : Int} (hy : y ≠ 0) : Rat.divInt z y = 0 ↔ z = 0 := by
 constructor
 ·intro h
  have := num_div z y hy
  rw [h] at this
  have h2 : y.sign * z = 0 := by rw [← this]; exact Int.zero_mul _
  rcases Int.mul_eq_zero.1 h2 with h3 | h3
  ·exact absurd (Int.sign_eq_zero_iff_zero.1 h3) hy
  ·exact h3
 ·rintro rfl
  exact Rat.zero_divInt y
theorem QV.qquo (h : QV B w a0 a1 a2 a3 q K) (h' : QV B2 w b0 b1 b2 b3 r K) (hr : r ≠ 0) (hK : K ≤ 8388607) (hT : Tb w) : Calls Tryz.prog 37 #[.agg #[a0, a1, a2, a3], .agg #[b0, b1, b2, b3]] w fun e w' => RE w w' (q / r).num (q / r).den 0 e := by
 obtain ⟨z, y, h, h0, rfl⟩ := h
 obtain ⟨x, v, h', h0', rfl⟩ := h'
 have hx : x ≠ 0 := fun e => hr ((q_zero h0').2 e)
 refine quo_via x.sign (beq_eq_false_iff_ne.2 (fun e => hx (Int.sign_eq_zero_iff_zero.1 e))) (hi9 fun W g hW hg => ?_) (hi9 fun W hW => (h'.num.next hW).zsign (by omega)) (hi9 fun W hW => ?_)
 ·have := h.fault h' (by omega) hW hg
  rwa [if_neg (by rintro (e | e); exact h0 e; exact h0' e)] at this
 ·have hi : QV B2 w b2 b3 b0 b1 (Rat.divInt v x) K := ⟨v, x, ⟨h'.den, h'.num⟩, hx, rfl⟩
  have := ((h.qv h0).next hW).qmul (hi.next hW) (by omega) (hT.next hW)
  rwa [div_inv x v, ← Rat.div_def] at this
theorem QV.quo0 (h : QV B w a0 a1 a2 a3 q K) (h' : QV B2 w b0 b1 b2 b3 0 K) (hK : K ≤ 8388607) : Calls Tryz.prog 37 #[.agg #[a0, a1, a2, a3], .agg #[b0, b1, b2, b3]] w fun e w' => RE w w' 0 0 5 e := by
 obtain ⟨z, y, h, h0, rfl⟩ := h
 obtain ⟨x, v, h', h0', e⟩ := h'
 have hx : x = 0 := (q_zero h0').1 e
 refine quo_zero (hi9 fun W g hW hg => ?_) (hi9 fun W hW => ?_)
 ·have := h.fault h' (by omega) hW hg
  rwa [if_neg (by rintro (e | e); exact h0 e; exact h0' e)] at this
 ·have := (h'.num.next hW).zsign (by omega)
  rwa [hx] at this
set_option maxHeartbeats 3200000 in
theorem inv_via (QU : Hid (∀ W o0 o1 o2 o3 B9 (_ : Below w.heap.size w W) (_ : FN W B9 o0 o1 o2 o3 1 1), Calls Tryz.prog 37 #[.agg #[o0, o1, o2, o3], .agg #[a0, a1, a2, a3]] W fun e w' => RE W w' n m er e)) :
  Calls Tryz.prog 36 #[.agg #[a0, a1, a2, a3]] w fun e w' => RE w w' n m er e := by
 obtain ⟨b0', r0'⟩ := blk_rr w a0 a1 a2 a3 (.bool false) (.slice none 0 0) (.bool false) (.slice none 0 0)
 have k0 := bel_two w (.cells #[a0, a1, a2, a3] 27) (.cells #[.bool false, .slice none 0 0, .bool false, .slice none 0 0] 27)
 go_enter Tryz.func36, Tryz.ntmps36
 go_upto_region 1 with fail
 obtain ⟨w0, hw0⟩ : ∃ v, v = (w.alloc (.cells #[a0, a1, a2, a3] 27)).alloc (.cells #[.bool false, .slice none 0 0, .bool false, .slice none 0 0] 27) := ⟨_, rfl⟩
 rw [← hw0] at k0 b0' r0' ⊢
 clear hw0
 have H0 := hi9 b0'
 have R0 := hi9 r0'
 clear b0' r0'
 obtain ⟨p0, p1, p2, p3, _, _, _, _⟩ := H0.out.four
 have n1 : w.heap.size ≠ w.heap.size + 1 := by omega
 have n3 := Ne.symm n1
 obtain ⟨_, _, _, _, r4, r5, r6, r7⟩ := R0.out.four
 go_region_held3 (fun W => W.cell? ⟨w.heap.size, 0, none⟩ = some a0 ∧ W.cell? ⟨w.heap.size, 1, none⟩ = some a1 ∧ W.cell? ⟨w.heap.size, 2, none⟩ = some a2 ∧ W.cell? ⟨w.heap.size, 3, none⟩ = some a3) (go_keep) (first
  | (go_at_call 20; (with_reducible refine (of05_any 1 (by decide) (by decide)).mono ?_); rintro e wo ⟨o0, o1, o2, o3, o4, o5, o6, o7, rfl, no, hbo⟩; have mo : Below w0.heap.size w0 wo := bst (by repeat (first | exact br9 | apply bdw | (refine bdn ?_ _) | (refine bal ?_ nl9 _))) hbo nl9; obtain ⟨x0o, y0o, z0o, v0o, f0o, g0o, h0o, j0o⟩ := (H0.out.below mo H0.out.lt).four; obtain ⟨x1o, y1o, z1o, v1o, f1o, g1o, h1o, j1o⟩ := (R0.out.below mo R0.out.lt).four)
  | (go_at_call 37; (with_reducible refine (QU.out _ _ _ _ _ _ (bst k0 (by repeat (first | exact br9 | exact mo | apply bdw | (refine bdn ?_ _) | (refine bal ?_ nl9 _))) nl9) (no.next (by repeat (first | exact br9 | apply bdw | (refine bdn ?_ _) | (refine bal ?_ nl9 _))))).mono ?_); rintro e wq ⟨s0, s1, s2, s3, s4, s5, s6, s7, rfl, nn, hbq⟩; have mq : Below w0.heap.size w0 wq := bst (by repeat (first | exact br9 | exact mo | apply bdw | (refine bdn ?_ _) | (refine bal ?_ nl9 _))) hbq nl9; have ioq : Below wo.heap.size wo wq := bst (by repeat (first | exact br9 | apply bdw | (refine bdn ?_ _) | (refine bal ?_ nl9 _))) hbq nl9; obtain ⟨x0q, y0q, z0q, v0q, f0q, g0q, h0q, j0q⟩ := (H0.out.below mq H0.out.lt).four; obtain ⟨x1q, y1q, z1q, v1q, f1q, g1q, h1q, j1q⟩ := (R0.out.below mq R0.out.lt).four; have b9 := R0.out.below mq R0.out.lt; obtain ⟨_, _, _, _, u0, u1, u2, u3⟩ := b9.four))
 all_goals
  go_wp2_with fail
  have sz1 := k0.size
  have sz2 := mo.size
  exact re_ret (bst k0 mq nl9) b9 (by omega) (nn.mono (by first | omega | (simp; omega))) rfl rfl rfl rfl
theorem FN.one {B9 : Nat} {o0 o1 o2 o3 : Value} (h : FN w B9 o0 o1 o2 o3 1 1) (hK : 1 ≤ K) : QV B w o0 o1 o2 o3 1 K := by
 have e : (1 : Nat) < 4294967296 ^ K := Nat.lt_of_lt_of_le (by decide : (1 : Nat) < 4294967296 ^ 1) (pow_mono hK)
 exact FN.qv (q := 1) h ⟨e, e⟩
theorem QV.qinv (h : QV B w a0 a1 a2 a3 q K) (hq : q ≠ 0) (hK1 : 1 ≤ K) (hK : K ≤ 8388607) (hT : Tb w) : Calls Tryz.prog 36 #[.agg #[a0, a1, a2, a3]] w fun e w' => RE w w' (q⁻¹).num (q⁻¹).den 0 e :=
 inv_via (hi9 fun W o0 o1 o2 o3 B9 hW ho => by
  have := (ho.one (B := 0) hK1).qquo (h.next hW) hq hK (hT.next hW)
  rwa [Rat.div_def, Rat.one_mul] at this)
theorem QV.inv0 (h : QV B w a0 a1 a2 a3 0 K) (hK1 : 1 ≤ K) (hK : K ≤ 8388607) : Calls Tryz.prog 36 #[.agg #[a0, a1, a2, a3]] w fun e w' => RE w w' 0 0 5 e :=
 inv_via (hi9 fun _ _ _ _ _ _ hW ho => (ho.one (B := 0) hK1).quo0 (h.next hW) hK)
end
end
section
open Go.RowKit
section
variable {w : World} {B B2 : Nat} {a0 a1 a2 a3 b0 b1 b2 b3 : Value} {K : Nat} {z y x v n m : Int} {q r : Rat}
set_option maxHeartbeats 3200000 in
theorem QV.rqinv (h : QV B w a0 a1 a2 a3 q K) (hK : K ≤ 8388607) (hq : q ≠ 0) : Calls Tryz.prog 38 #[.agg #[a0, a1, a2, a3]] w fun e w' => RO w w' (q⁻¹).num (q⁻¹).den e := by
 obtain ⟨z, y, h, h0, rfl⟩ := h
 have hz : z ≠ 0 := fun e => hq ((q_zero h0).2 e)
 have MK : Hid (∀ W (_ : Below w.heap.size w W), Calls Tryz.prog 72 #[.agg #[a2, a3], .agg #[a0, a1]] W fun e w' => RO W w' (Rat.divInt z y)⁻¹.num (Rat.divInt z y)⁻¹.den e) := hi9 fun W hW => by
  have := (h.den.next hW).rmake (h.num.next hW) (by omega) hz
  rwa [div_inv z y] at this
 obtain ⟨i, hi⟩ : ∃ i, i = (Rat.divInt z y)⁻¹ := ⟨_, rfl⟩
 rw [← hi] at MK ⊢
 clear h h0 hz hq hi
 obtain ⟨b0', r0'⟩ := blk_rr w a0 a1 a2 a3 (.bool false) (.slice none 0 0) (.bool false) (.slice none 0 0)
 have k0 := bel_two w (.cells #[a0, a1, a2, a3] 27) (.cells #[.bool false, .slice none 0 0, .bool false, .slice none 0 0] 27)
 go_enter Tryz.func38, Tryz.ntmps38
 go_upto_region 1 with fail
 obtain ⟨w0, hw0⟩ : ∃ v, v = (w.alloc (.cells #[a0, a1, a2, a3] 27)).alloc (.cells #[.bool false, .slice none 0 0, .bool false, .slice none 0 0] 27) := ⟨_, rfl⟩
 rw [← hw0] at k0 b0' r0' ⊢
 clear hw0
 have H0 := hi9 b0'
 have R0 := hi9 r0'
 clear b0' r0'
 obtain ⟨p0, p1, p2, p3, _, _, _, _⟩ := H0.out.four
 go_wp2_with fail
 refine (MK.out _ k0).mono ?_
 rintro e w1 ⟨s0, s1, s2, s3, s4, s5, s6, s7, rfl, nn, hb1⟩
 have b9 := R0.out.below hb1 R0.out.lt
 obtain ⟨_, _, _, _, u0, u1, u2, u3⟩ := b9.four
 have sz5 := k0.size
 clear p0 p1 p2 p3 MK
 go_wp2_with fail
 exact ro_ret (bst k0 hb1 nl9) b9 (by omega) (nn.mono sz5) rfl rfl rfl
theorem num_sign {z y : Int} (hy : y ≠ 0) : (Rat.divInt z y).num.sign = z.sign * y.sign := by
 have hg : 0 < Int.gcd y z := Int.gcd_pos_of_ne_zero_left _ hy
 have h := congrArg Int.sign (num_div z y hy)
 rw [Int.sign_mul, Int.sign_mul, Int.sign_sign, Int.sign_eq_one_of_pos (a := ((Int.gcd y z : Nat) : Int)) (by omega), Int.mul_one] at h
 rw [h, Int.mul_comm]
theorem sign_wrap (z y : Int) : IntKind.i64.wrap (z.sign * y.sign) = z.sign * y.sign := by
 rcases sign_cases z with ⟨_, a⟩ | ⟨_, a⟩ | ⟨_, a⟩ <;> rcases sign_cases y with ⟨_, b⟩ | ⟨_, b⟩ | ⟨_, b⟩ <;> rw [a, b] <;> decide
set_option maxHeartbeats 3200000 in
theorem QV.rqsign (h : QV B w a0 a1 a2 a3 q K) (hK : K ≤ 67108864) : Calls Tryz.prog 23 #[.agg #[a0, a1, a2, a3]] w fun e w' => e = .returned (.int .i64 q.num.sign) ∧ Below w.heap.size w w' := by
 obtain ⟨z, y, h, h0, rfl⟩ := h
 rw [num_sign h0]
 have SA : Hid (∀ W (_ : Below w.heap.size w W), Calls Tryz.prog 71 #[.agg #[a0, a1]] W fun e w' => e = .returned (.int .i64 z.sign) ∧ Below W.heap.size W w') := hi9 fun W hW => (h.num.next hW).rsign hK
 have SB : Hid (∀ W (_ : Below w.heap.size w W), Calls Tryz.prog 71 #[.agg #[a2, a3]] W fun e w' => e = .returned (.int .i64 y.sign) ∧ Below W.heap.size W w') := hi9 fun W hW => (h.den.next hW).rsign hK
 have hw9 := sign_wrap z y
 obtain ⟨s, hs⟩ : ∃ s, s = z.sign := ⟨_, rfl⟩
 obtain ⟨t, ht⟩ : ∃ t, t = y.sign := ⟨_, rfl⟩
 rw [← hs] at SA hw9 ⊢
 rw [← ht] at SB hw9 ⊢
 clear h h0 hs ht
 have k0 := bel_one w (.cells #[a0, a1, a2, a3] 27)
 have b0' : Blk (w.alloc (.cells #[a0, a1, a2, a3] 27)) w.heap.size 27 [a0, a1, a2, a3] := Blk.new_ rfl
 go_enter Tryz.func23, Tryz.ntmps23
 go_upto_region 1 with fail
 obtain ⟨w0, hw0⟩ : ∃ v, v = w.alloc (.cells #[a0, a1, a2, a3] 27) := ⟨_, rfl⟩
 rw [← hw0] at k0 b0' ⊢
 clear hw0
 have H0 := hi9 b0'
 clear b0'
 obtain ⟨p0, p1, p2, p3, _, _, _, _⟩ := H0.out.four
 go_region_held3 (fun W => W.cell? ⟨w.heap.size, 0, none⟩ = some a0 ∧ W.cell? ⟨w.heap.size, 1, none⟩ = some a1 ∧ W.cell? ⟨w.heap.size, 2, none⟩ = some a2 ∧ W.cell? ⟨w.heap.size, 3, none⟩ = some a3) (go_keep) (first
  | (go_at_call_of 71 (Value.agg #[a0, a1]); (with_reducible refine (SA.out _ (bst k0 (by repeat (first | exact br9 | apply bdw | (refine bdn ?_ _) | (refine bal ?_ nl9 _))) nl9)).mono ?_); rintro e wa ⟨rfl, hba⟩; have ma : Below w0.heap.size w0 wa := bst (by repeat (first | exact br9 | apply bdw | (refine bdn ?_ _) | (refine bal ?_ nl9 _))) hba nl9; obtain ⟨x0a, y0a, z0a, v0a, f0a, g0a, h0a, j0a⟩ := (H0.out.below ma H0.out.lt).four)
  | (go_at_call_of 71 (Value.agg #[a2, a3]); (with_reducible refine (SB.out _ (bst k0 (by repeat (first | exact br9 | exact ma | apply bdw | (refine bdn ?_ _) | (refine bal ?_ nl9 _))) nl9)).mono ?_); rintro e wb ⟨rfl, hbb⟩; have mb : Below w0.heap.size w0 wb := bst (by repeat (first | exact br9 | exact ma | apply bdw | (refine bdn ?_ _) | (refine bal ?_ nl9 _))) hbb nl9; have iab : Below wa.heap.size wa wb := bst (by repeat (first | exact br9 | apply bdw | (refine bdn ?_ _) | (refine bal ?_ nl9 _))) hbb nl9; obtain ⟨x0b, y0b, z0b, v0b, f0b, g0b, h0b, j0b⟩ := (H0.out.below mb H0.out.lt).four))
 all_goals
  go_wp2_with fail
  go_ret
  exact ⟨rfl, bst k0 mb nl9⟩
set_option maxHeartbeats 3200000 in
theorem rof05_any (n : Int) (h1 : -9223372036854775808 ≤ n) (h2 : n ≤ 9223372036854775807) : Calls Tryz.prog 21 #[.int .i64 n] w fun e w' => RO w w' n 1 e := by
 have k0 := bel_one w (.cells #[.bool false, .slice none 0 0, .bool false, .slice none 0 0] 27)
 have b0 : Blk (w.alloc (.cells #[.bool false, .slice none 0 0, .bool false, .slice none 0 0] 27)) w.heap.size 27 [.bool false, .slice none 0 0, .bool false, .slice none 0 0] := Blk.new_ rfl
 have ZO := hi9 (io_rof n h1 h2)
 clear h1 h2
 go_enter Tryz.func21, Tryz.ntmps21
 go_wp2_with fail
 obtain ⟨w0, hw0⟩ : ∃ v, v = w.alloc (.cells #[.bool false, .slice none 0 0, .bool false, .slice none 0 0] 27) := ⟨_, rfl⟩
 rw [← hw0] at k0 b0 ⊢
 clear hw0
 refine (ZO.out _).mono ?_
 rintro e w1 ⟨p0, p1, p2, p3, rfl, n1, hb1⟩
 have sz0 := k0.size
 have s1 := hb1.size
 have k1 := bst k0 hb1 nl9
 have b1 := b0.below hb1 b0.lt
 clear ZO k0 hb1 b0
 have N1 := hi9 n1
 clear n1
 go_wp2_with fail
 refine (io_rof 1 (by decide) (by decide) _).mono ?_
 rintro e w2 ⟨q0, q1, q2, q3, rfl, n2, hb2⟩
 have k2 := bst k1 hb2 nl9
 have b2 := b1.below hb2 b1.lt
 obtain ⟨_, _, _, _, f0, f1, f2, f3⟩ := b2.four
 have f9 : FN w2 w.heap.size (.bool p0) (.slice p1 p2 p3) (.bool q0) (.slice q1 q2 q3) n 1 := ⟨(N1.out.next hb2).mono sz0, n2.mono (by omega)⟩
 have F9 := hi9 f9
 clear f9 n2 N1 k1 hb2 b1
 go_wp2_with fail
 exact ro_ret k2 b2 nl9 F9.out rfl rfl rfl
structure FX (B : Nat) (w : World) (a b c d : Value) (g : Bool) (xs : List Nat) (z : Int) (g2 : Bool) (ys : List Nat) (y : Int) (K : Nat) : Prop where
 num : IX B w a b g xs z K
 den : IX B w c d g2 ys y K
theorem FX.next {w w' : World} {a b c d : Value} {g g2 : Bool} {xs ys : List Nat} (h : FX B w a b c d g xs z g2 ys y K) (hb : Below w.heap.size w w') : FX B w' a b c d g xs z g2 ys y K := ⟨h.num.next hb, h.den.next hb⟩
theorem FX.var {w : World} {a b c d : Value} {g g2 : Bool} {xs ys : List Nat} (h : FX B w a b c d g xs z g2 ys y K) {k i : Nat} {t : TypeId} {L : List Value} (hB : B ≤ k) (hk : Blk w k t L) (ht : t ≠ 50) (u : Value) : FX B (w.setCell ⟨k, i, none⟩ u) a b c d g xs z g2 ys y K := ⟨h.num.var hB hk ht u, h.den.var hB hk ht u⟩
theorem FX.fv {w : World} {a b c d : Value} {g g2 : Bool} {xs ys : List Nat} (h : FX B w a b c d g xs z g2 ys y K) : FV B w a b c d z y K := ⟨h.num.iv, h.den.iv⟩
theorem FN.fx {w : World} {a b c d : Value} (h : FN w B a b c d n m) (hn : n.natAbs < 4294967296 ^ K) (hm : m.natAbs < 4294967296 ^ K) : FX B2 w a b c d (isNeg n) (nd n.natAbs) n (isNeg m) (nd m.natAbs) m K := ⟨h.num.ix hn, h.den.ix hm⟩
set_option maxHeartbeats 3200000 in
theorem FX.rsame {g g2 : Bool} {xs ys : List Nat} {J : Nat} (h : FX B w a0 a1 a2 a3 g xs z g2 ys y K) (h' : FX B2 w b0 b1 b2 b3 g xs x g2 ys v J) (hK : K ≤ 281474976710656) : Calls Tryz.prog 73 #[.agg #[a0, a1, a2, a3], .agg #[b0, b1, b2, b3]] w fun e w' => e = .returned (.bool true) ∧ Below w.heap.size w w' := by
 have HA := hi9 h
 have HC := hi9 h'
 clear h h'
 have k0 := bel_two w (.cells #[a0, a1, a2, a3] 27) (.cells #[b0, b1, b2, b3] 27)
 obtain ⟨b0', b1'⟩ := blk_rr w a0 a1 a2 a3 b0 b1 b2 b3
 go_enter Tryz.func73, Tryz.ntmps73
 go_upto_region 1 with fail
 obtain ⟨w0, hw0⟩ : ∃ v, v = (w.alloc (.cells #[a0, a1, a2, a3] 27)).alloc (.cells #[b0, b1, b2, b3] 27) := ⟨_, rfl⟩
 rw [← hw0] at k0 b0' b1' ⊢
 clear hw0
 have H0 := hi9 b0'
 have H1 := hi9 b1'
 clear b0' b1'
 obtain ⟨p0, p1, p2, p3, _, _, _, _⟩ := H0.out.four
 obtain ⟨q0, q1, q2, q3, _, _, _, _⟩ := H1.out.four
 go_wp2_with fail
 refine ((HA.out.num.next k0).rsame (HC.out.num.next k0) hK).mono ?_
 rintro e w1 ⟨rfl, hb1⟩
 have k1 := bst k0 hb1 nl9
 replace H0 := hi9 (H0.out.below hb1 H0.out.lt)
 replace H1 := hi9 (H1.out.below hb1 H1.out.lt)
 clear p0 p1 p2 p3 q0 q1 q2 q3 k0 hb1
 obtain ⟨p0, p1, p2, p3, _, _, _, _⟩ := H0.out.four
 obtain ⟨q0, q1, q2, q3, _, _, _, _⟩ := H1.out.four
 go_wp2_with fail
 refine ((HA.out.den.next k1).rsame (HC.out.den.next k1) hK).mono ?_
 rintro e w2 ⟨rfl, hb2⟩
 have k2 := bst k1 hb2 nl9
 go_wp2_with fail
 go_ret
 exact ⟨rfl, k2⟩
end
end
section
open Go.RowKit
section
variable {w : World} {B B2 : Nat} {a0 a1 a2 a3 b0 b1 b2 b3 : Value} {K J : Nat} {z y x v n m er : Int} {q r : Rat} {g g2 : Bool} {xs ys : List Nat}
set_option maxHeartbeats 3200000 in
theorem frac_any (n m : Int) (h1 : -9223372036854775808 ≤ n) (h2 : n ≤ 9223372036854775807) (h3 : -9223372036854775808 ≤ m) (h4 : m ≤ 9223372036854775807) : Calls Tryz.prog 57 #[.int .i64 n, .int .i64 m] w fun e w' => RO w w' n m e := by
 have k0 := bel_one w (.cells #[.bool false, .slice none 0 0, .bool false, .slice none 0 0] 27)
 have b0 : Blk (w.alloc (.cells #[.bool false, .slice none 0 0, .bool false, .slice none 0 0] 27)) w.heap.size 27 [.bool false, .slice none 0 0, .bool false, .slice none 0 0] := Blk.new_ rfl
 have ZN := hi9 (io_rof n h1 h2)
 have ZM := hi9 (io_rof m h3 h4)
 clear h1 h2 h3 h4
 go_enter Tryz.func57, Tryz.ntmps57
 go_wp2_with fail
 obtain ⟨w0, hw0⟩ : ∃ v, v = w.alloc (.cells #[.bool false, .slice none 0 0, .bool false, .slice none 0 0] 27) := ⟨_, rfl⟩
 rw [← hw0] at k0 b0 ⊢
 clear hw0
 refine (ZN.out _).mono ?_
 rintro e w1 ⟨p0, p1, p2, p3, rfl, n1, hb1⟩
 have sz0 := k0.size
 have sz1 := hb1.size
 have k1 := bst k0 hb1 nl9
 have b1 := b0.below hb1 b0.lt
 clear ZN k0 hb1 b0
 have N1 := hi9 n1
 clear n1
 go_wp2_with fail
 refine (ZM.out _).mono ?_
 rintro e w2 ⟨q0, q1, q2, q3, rfl, n2, hb2⟩
 have k2 := bst k1 hb2 nl9
 have b2 := b1.below hb2 b1.lt
 obtain ⟨_, _, _, _, f0, f1, f2, f3⟩ := b2.four
 have f9 : FN w2 w.heap.size (.bool p0) (.slice p1 p2 p3) (.bool q0) (.slice q1 q2 q3) n m := ⟨(N1.out.next hb2).mono sz0, n2.mono (by omega)⟩
 have F9 := hi9 f9
 clear f9 n2 N1 k1 hb2 b1 ZM
 go_wp2_with fail
 exact ro_ret k2 b2 nl9 F9.out rfl rfl rfl
set_option maxHeartbeats 3200000 in
theorem FX.lsame (h : FX B w a0 a1 a2 a3 g xs z g2 ys y K) (h' : FX B2 w b0 b1 b2 b3 g xs x g2 ys v J) (hK : K ≤ 281474976710656) : Calls Tryz.prog 19 #[.agg #[a0, a1, a2, a3], .agg #[b0, b1, b2, b3]] w fun e w' => e = .returned (.bool true) ∧ Below w.heap.size w w' := by
 have HA := hi9 h
 have HC := hi9 h'
 clear h h'
 have k0 := bel_two w (.cells #[a0, a1, a2, a3] 27) (.cells #[b0, b1, b2, b3] 27)
 obtain ⟨b0', b1'⟩ := blk_rr w a0 a1 a2 a3 b0 b1 b2 b3
 go_enter Tryz.func19, Tryz.ntmps19
 go_upto_region 1 with fail
 obtain ⟨w0, hw0⟩ : ∃ v, v = (w.alloc (.cells #[a0, a1, a2, a3] 27)).alloc (.cells #[b0, b1, b2, b3] 27) := ⟨_, rfl⟩
 rw [← hw0] at k0 b0' b1' ⊢
 clear hw0
 obtain ⟨p0, p1, p2, p3, _, _, _, _⟩ := b0'.four
 obtain ⟨q0, q1, q2, q3, _, _, _, _⟩ := b1'.four
 go_wp2_with fail
 refine ((HA.out.next k0).rsame (HC.out.next k0) hK).mono ?_
 rintro e w1 ⟨rfl, hb1⟩
 go_wp2_with fail
 go_ret
 exact ⟨rfl, bst k0 hb1 nl9⟩
theorem FN.lsame {B3 B4 : Nat} (h : FN w B3 a0 a1 a2 a3 n m) (h' : FN w B4 b0 b1 b2 b3 n m) (hn : n.natAbs < 4294967296 ^ K) (hm : m.natAbs < 4294967296 ^ K) (hK : K ≤ 281474976710656) : Calls Tryz.prog 19 #[.agg #[a0, a1, a2, a3], .agg #[b0, b1, b2, b3]] w fun e w' => e = .returned (.bool true) ∧ Below w.heap.size w w' :=
 (h.fx (B2 := 0) hn hm).lsame (h'.fx (B2 := 0) hn hm) hK
theorem FN.zero {B3 : Nat} : FN w B3 (.bool false) (.slice none 0 0) (.bool false) (.slice none 0 0) 0 0 := ⟨IN.zero, IN.zero⟩
set_option maxHeartbeats 3200000 in
theorem make_via (NM : Hid (∀ W (_ : Below w.heap.size w W), Calls Tryz.prog 12 #[.agg #[a0, a1, a2, a3]] W fun e w' => RE W w' n m er e)) : Calls Tryz.prog 11 #[.agg #[a0, a1], .agg #[a2, a3]] w fun e w' => RE w w' n m er e := by
 obtain ⟨b0', b1', r0'⟩ := blk_zzr w a0 a1 a2 a3 (.bool false) (.slice none 0 0) (.bool false) (.slice none 0 0)
 have k0 := bel_three w (.cells #[a0, a1] 25) (.cells #[a2, a3] 25) (.cells #[.bool false, .slice none 0 0, .bool false, .slice none 0 0] 27)
 go_enter Tryz.func11, Tryz.ntmps11
 go_upto_region 1 with fail
 obtain ⟨w0, hw0⟩ : ∃ v, v = ((w.alloc (.cells #[a0, a1] 25)).alloc (.cells #[a2, a3] 25)).alloc (.cells #[.bool false, .slice none 0 0, .bool false, .slice none 0 0] 27) := ⟨_, rfl⟩
 rw [← hw0] at k0 b0' b1' r0' ⊢
 clear hw0
 obtain ⟨p0, p1, _, _⟩ := b0'.two
 obtain ⟨q0, q1, _, _⟩ := b1'.two
 go_wp2_with fail
 refine (NM.out _ k0).mono ?_
 rintro e w1 ⟨s0, s1, s2, s3, s4, s5, s6, s7, rfl, nn, hb1⟩
 have b9 := r0'.below hb1 r0'.lt
 obtain ⟨_, _, _, _, u0, u1, u2, u3⟩ := b9.four
 have sz9 := k0.size
 clear p0 p1 q0 q1 NM
 go_wp2_with fail
 exact re_ret (bst k0 hb1 nl9) b9 (by omega) (nn.mono sz9) rfl rfl rfl rfl
set_option maxHeartbeats 6400000 in
theorem lives05 (hT : Tb w) : Calls Tryz.prog 25 #[] w fun e w' => e = .returned (.bool true) ∧ Below w.heap.size w w' := by
 have TT := hi9 hT
 clear hT
 go_enter Tryz.func25, Tryz.ntmps25
 go_wp2_with fail
 refine (io_rof 6 (by decide) (by decide) _).mono ?_
 rintro e w1 ⟨p0, p1, p2, p3, rfl, n1, hb1⟩
 have N1 := hi9 n1
 have k1 : Below w.heap.size w w1 := hb1
 clear n1
 go_wp2_with fail
 refine (io_rof (-4) (by decide) (by decide) _).mono ?_
 rintro e w2 ⟨q0, q1, q2, q3, rfl, n2, hb2⟩
 have k2 := bst k1 hb2 nl9
 have i6 : IV 0 w2 (.bool p0) (.slice p1 p2 p3) 6 1 := (N1.out.next hb2).iv (by decide)
 have i4 : IV 0 w2 (.bool q0) (.slice q1 q2 q3) (-4) 1 := n2.iv (by decide)
 have NM : Hid (∀ W (_ : Below w2.heap.size w2 W), Calls Tryz.prog 12 #[.agg #[.bool p0, .slice p1 p2 p3, .bool q0, .slice q1 q2 q3]] W fun e w' => RE W w' (-3) 2 0 e) := hi9 fun W hW =>
  ((FV.qv ⟨i6, i4⟩ (by decide)).next hW).qnorm (by decide) (TT.out.next (bst k2 hW nl9))
 have MK := hi9 (make_via NM)
 clear N1 n2 i6 i4 NM k1 hb1 hb2
 go_wp2_with fail
 refine MK.out.mono ?_
 rintro e w3 ⟨s0, s1, s2, s3, s4, s5, s6, s7, rfl, n3, hb3⟩
 have k3 := bst k2 hb3 nl9
 have N3 := hi9 n3
 clear n3 MK k2 hb3
 go_upto_region 2 with fail
 obtain ⟨v1, hv1⟩ : ∃ v, v = w3.alloc (.cells #[.bool s0, .slice s1 s2 s3, .bool s4, .slice s5 s6 s7] 27) := ⟨_, rfl⟩
 rw [← hv1]
 have b1 : Blk v1 w3.heap.size 27 [.bool s0, .slice s1 s2 s3, .bool s4, .slice s5 s6 s7] := by rw [hv1]; exact Blk.new_ rfl
 have j1 : Below w3.heap.size w3 v1 := by rw [hv1]; exact bel_one _ _
 obtain ⟨g1, hg⟩ : ∃ g, g = w3.heap.size := ⟨_, rfl⟩
 rw [← hg] at b1 ⊢
 clear hg hv1
 have H1 := hi9 b1
 have k4 := bst k3 j1 nl9
 have N4 := hi9 (N3.out.next j1)
 clear b1 j1 k3 N3
 go_wp2_with fail
 refine (frac_any 1 0 (by decide) (by decide) (by decide) (by decide)).mono ?_
 rintro e w5 ⟨t0, t1, t2, t3, t4, t5, t6, t7, rfl, n5, hb5⟩
 have k5 := bst k4 hb5 nl9
 have f5 : FV 0 w5 (.bool t0) (.slice t1 t2 t3) (.bool t4) (.slice t5 t6 t7) 1 0 1 := (n5.fx (by decide) (by decide)).fv
 have NB := hi9 (f5.norm_bad (by decide))
 replace H1 := hi9 (H1.out.below hb5 H1.out.lt)
 replace N4 := hi9 (N4.out.next hb5)
 clear n5 f5 k4 hb5
 go_wp2_with fail
 refine NB.out.mono ?_
 rintro e w6 ⟨t0, t1, t2, t3, t4, t5, t6, t7, rfl, n6, hb6⟩
 have k6 := bst k5 hb6 nl9
 replace H1 := hi9 (H1.out.below hb6 H1.out.lt)
 replace N4 := hi9 (N4.out.next hb6)
 clear NB n6 k5 hb6
 go_upto_region 3 with fail
 obtain ⟨v2, hv2⟩ : ∃ v, v = w6.alloc (.cells #[.bool t0, .slice t1 t2 t3, .bool t4, .slice t5 t6 t7] 27) := ⟨_, rfl⟩
 rw [← hv2]
 have b3 : Blk v2 w6.heap.size 27 [.bool t0, .slice t1 t2 t3, .bool t4, .slice t5 t6 t7] := by rw [hv2]; exact Blk.new_ rfl
 have j3 : Below w6.heap.size w6 v2 := by rw [hv2]; exact bel_one _ _
 obtain ⟨g3, hg⟩ : ∃ g, g = w6.heap.size := ⟨_, rfl⟩
 rw [← hg] at b3 ⊢
 clear hg hv2
 have k7 := bst k6 j3 nl9
 replace H1 := hi9 (H1.out.below j3 H1.out.lt)
 replace N4 := hi9 (N4.out.next j3)
 have H3 := hi9 b3
 clear b3 j3 k6
 have SM : Hid (∀ W t0 t1 t2 t3 B9 (_ : Below v2.heap.size v2 W) (_ : FN W B9 t0 t1 t2 t3 (-3) 2), Calls Tryz.prog 19 #[.agg #[.bool s0, .slice s1 s2 s3, .bool s4, .slice s5 s6 s7], .agg #[t0, t1, t2, t3]] W fun e w' => e = .returned (.bool true) ∧ Below W.heap.size W w') := hi9 fun W t0 t1 t2 t3 B9 hW ht => (N4.out.next hW).lsame ht (K := 1) (by decide) (by decide) (by decide)
 clear N4
 obtain ⟨p0, p1, p2, p3, _, _, _, _⟩ := H1.out.four
 go_region_held3 (fun W => W.cell? ⟨g1, 0, none⟩ = some (.bool s0) ∧ W.cell? ⟨g1, 1, none⟩ = some (.slice s1 s2 s3) ∧ W.cell? ⟨g1, 2, none⟩ = some (.bool s4) ∧ W.cell? ⟨g1, 3, none⟩ = some (.slice s5 s6 s7)) (go_keep) (first
  | (go_at_call 57; (with_reducible refine (frac_any (-3) 2 (by decide) (by decide) (by decide) (by decide)).mono ?_); rintro e wt ⟨u0, u1, u2, u3, u4, u5, u6, u7, rfl, nt, hbt⟩; have mt : Below v2.heap.size v2 wt := bst (by repeat (first | exact br9 | apply bdw | (refine bdn ?_ _) | (refine bal ?_ nl9 _))) hbt nl9; obtain ⟨x0t, y0t, z0t, v0t, f0t, g0t, h0t, j0t⟩ := (H1.out.below mt H1.out.lt).four; obtain ⟨x1t, y1t, z1t, v1t, f1t, g1t, h1t, j1t⟩ := (H3.out.below mt H3.out.lt).four)
  | (go_at_call 19; (with_reducible refine (SM.out _ _ _ _ _ _ (by repeat (first | exact br9 | exact mt | apply bdw | (refine bdn ?_ _) | (refine bal ?_ nl9 _))) (nt.next (by repeat (first | exact br9 | apply bdw | (refine bdn ?_ _) | (refine bal ?_ nl9 _))))).mono ?_); rintro e wu ⟨rfl, hbu⟩; have mu : Below v2.heap.size v2 wu := bst (by repeat (first | exact br9 | exact mt | apply bdw | (refine bdn ?_ _) | (refine bal ?_ nl9 _))) hbu nl9; have itu : Below wt.heap.size wt wu := bst (by repeat (first | exact br9 | apply bdw | (refine bdn ?_ _) | (refine bal ?_ nl9 _))) hbu nl9; obtain ⟨x0u, y0u, z0u, v0u, f0u, g0u, h0u, j0u⟩ := (H1.out.below mu H1.out.lt).four; obtain ⟨x1u, y1u, z1u, v1u, f1u, g1u, h1u, j1u⟩ := (H3.out.below mu H3.out.lt).four))
 all_goals
  go_wp2_with fail
  go_ret
  exact ⟨rfl, bst k7 mu nl9⟩
end
end
end Go.Proofs.YtbcphifjcaobfaaGreatDoor
