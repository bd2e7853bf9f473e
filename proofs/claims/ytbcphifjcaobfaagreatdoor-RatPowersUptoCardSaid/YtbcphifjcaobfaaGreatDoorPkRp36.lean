/- The contract of rat.Mul. The contracts of the reference's May and Norm on fractions. The contracts of the reference's Neg and Mul on fractions. The contracts of zint's Of and Near. -/
import Derived.Test.YtbcphifjcaobfaaGreatDoorPkRp35
import Derived.Test.YtbcphifjcaobfaaGreatDoorPkRp29
namespace Go.Proofs.YtbcphifjcaobfaaGreatDoor
section
open Go.RowKit
theorem blk_rrr (w : World) (a0 a1 a2 a3 b0 b1 b2 b3 c0 c1 c2 c3 : Value) :
  Blk (((w.alloc (.cells #[a0, a1, a2, a3] 27)).alloc (.cells #[b0, b1, b2, b3] 27)).alloc (.cells #[c0, c1, c2, c3] 27)) w.heap.size 27 [a0, a1, a2, a3] ∧
  Blk (((w.alloc (.cells #[a0, a1, a2, a3] 27)).alloc (.cells #[b0, b1, b2, b3] 27)).alloc (.cells #[c0, c1, c2, c3] 27)) (w.heap.size + 1) 27 [b0, b1, b2, b3] ∧
  Blk (((w.alloc (.cells #[a0, a1, a2, a3] 27)).alloc (.cells #[b0, b1, b2, b3] 27)).alloc (.cells #[c0, c1, c2, c3] 27)) (w.heap.size + 1 + 1) 27 [c0, c1, c2, c3] := by
 refine ⟨((Blk.new_ rfl).heapAlloc _).heapAlloc _, ?_, ?_⟩
 ·have h := Blk.new_ (w := w.alloc (.cells #[a0, a1, a2, a3] 27)) (t := 27) (cs := #[b0, b1, b2, b3]) (vs := [b0, b1, b2, b3]) rfl
  have h2 := h.heapAlloc (.cells #[c0, c1, c2, c3] 27)
  simpa using h2
 ·have h := Blk.new_ (w := (w.alloc (.cells #[a0, a1, a2, a3] 27)).alloc (.cells #[b0, b1, b2, b3] 27)) (t := 27) (cs := #[c0, c1, c2, c3]) (vs := [c0, c1, c2, c3]) rfl
  simpa using h
section
variable {w : World} {g g2 g3 g4 : Bool} {A A2 A3 A4 : Option Addr} {c c2 c3 c4 K : Nat} {xs ys us vs : List Nat} {z y x v : Int}
theorem rl_two {W : World} {b : Nat} (h : Zh W g A c xs z K) (h2 : Zh W g2 A2 c2 ys y K) (h3 : Zh W g3 A3 c3 us x K) (h4 : Zh W g4 A4 c4 vs v K) (hb : Blk W b 27 [.bool g, .slice A xs.length c, .bool g2, .slice A2 ys.length c2, .bool g3, .slice A3 us.length c3, .bool g4, .slice A4 vs.length c4]) :
  RLs W K (some ⟨b, 0, none⟩) [⟨g, A, c, xs, z, g2, A2, c2, ys, y⟩, ⟨g3, A3, c3, us, x, g4, A4, c4, vs, v⟩] := fun k hk => by
 match k, hk with
 | 0, _ => exact ⟨b, 0, rfl, hb.lt, hb.cell 0, hb.cell 1, hb.cell 2, hb.cell 3, h, h2⟩
 | 1, _ => exact ⟨b, 0, rfl, hb.lt, hb.cell 4, hb.cell 5, hb.cell 6, hb.cell 7, h3, h4⟩
theorem bad_two : anyBad [⟨g, A, c, xs, z, g2, A2, c2, ys, y⟩, ⟨g3, A3, c3, us, x, g4, A4, c4, vs, v⟩] ↔ y = 0 ∨ v = 0 := by
 constructor
 ·rintro ⟨k, hk, e⟩
  match k, hk with
  | 0, _ => exact Or.inl e
  | 1, _ => exact Or.inr e
 ·rintro (e | e)
  ·exact ⟨0, by simp, e⟩
  ·exact ⟨1, by simp, e⟩
set_option maxHeartbeats 3200000 in
theorem ratmul_good (h : Zh w g A c xs z K) (h2 : Zh w g2 A2 c2 ys y K) (h3 : Zh w g3 A3 c3 us x K) (h4 : Zh w g4 A4 c4 vs v K) (hK : K ≤ 16777215) (hy : y ≠ 0) (hv : v ≠ 0) (hT : Tab64 w) (hTB : 1 < w.heap.size) :
  Calls Tryz.prog 31 #[.agg #[.bool g, .slice A xs.length c, .bool g2, .slice A2 ys.length c2], .agg #[.bool g3, .slice A3 us.length c3, .bool g4, .slice A4 vs.length c4]] w fun e w' => RAns w w' (lowN (z * x) (y * v)) (lowD (z * x) (y * v)) 0 e := by
 obtain ⟨b0, b1, r0⟩ := blk_rrr w (.bool g) (.slice A xs.length c) (.bool g2) (.slice A2 ys.length c2) (.bool g3) (.slice A3 us.length c3) (.bool g4) (.slice A4 vs.length c4) (.bool false) (.slice none 0 0) (.bool false) (.slice none 0 0)
 have k0 := bel_three w (.cells #[.bool g, .slice A xs.length c, .bool g2, .slice A2 ys.length c2] 27) (.cells #[.bool g3, .slice A3 us.length c3, .bool g4, .slice A4 vs.length c4] 27) (.cells #[.bool false, .slice none 0 0, .bool false, .slice none 0 0] 27)
 obtain ⟨w0, hw0⟩ : ∃ v, v = ((w.alloc (.cells #[.bool g, .slice A xs.length c, .bool g2, .slice A2 ys.length c2] 27)).alloc (.cells #[.bool g3, .slice A3 us.length c3, .bool g4, .slice A4 vs.length c4] 27)).alloc (.cells #[.bool false, .slice none 0 0, .bool false, .slice none 0 0] 27) := ⟨_, rfl⟩
 rw [← hw0] at k0 b0 b1 r0
 have AN : Hid (∀ W b (_ : Below w0.heap.size w0 W) (_ : Blk W b 27 [.bool g, .slice A xs.length c, .bool g2, .slice A2 ys.length c2, .bool g3, .slice A3 us.length c3, .bool g4, .slice A4 vs.length c4]), Calls Tryz.prog 58 #[.func (.func 85) #[] #[.pointer (some ⟨w.heap.size, 0, none⟩), .pointer (some ⟨w.heap.size + 1, 0, none⟩)], .slice (some ⟨b, 0, none⟩) 2 2] W fun e w' => RAns W w' (lowN (z * x) (y * v)) (lowD (z * x) (y * v)) 0 e) := fun W b hW hb => by
  have kW := bst k0 hW nl9
  have hr := rl_two (h.next kW) (h2.next kW) (h3.next kW) (h4.next kW) hb
  exact answer_mul_good (c := 2) (gp := w.heap.size) (gq := w.heap.size + 1) [⟨g, A, c, xs, z, g2, A2, c2, ys, y⟩, ⟨g3, A3, c3, us, x, g4, A4, c4, vs, v⟩] hr (by omega) (by simp) (fun e => by rcases bad_two.1 e with e | e; exact hy e; exact hv e) _ _ (fun V hV => by
   have kV := bst kW hV nl9
   exact mul1_any ((b0.below hW b0.lt).below hV (b0.below hW b0.lt).lt) ((b1.below hW b1.lt).below hV (b1.below hW b1.lt).lt) (h.next kV) (h2.next kV) (h3.next kV) (h4.next kV) hK hy hv (hT.below kV hTB) (Nat.lt_of_lt_of_le hTB kV.size))
 obtain ⟨n, hn⟩ : ∃ n, n = lowN (z * x) (y * v) := ⟨_, rfl⟩
 obtain ⟨d, hd⟩ : ∃ d, d = lowD (z * x) (y * v) := ⟨_, rfl⟩
 rw [← hn, ← hd] at AN ⊢
 clear hn hd h h2 h3 h4 hy hv hT hTB
 have j1 := bel_one w0 (.cells #[.bool g, .slice A xs.length c, .bool g2, .slice A2 ys.length c2, .bool g3, .slice A3 us.length c3, .bool g4, .slice A4 vs.length c4] 27)
 have bs : Blk (w0.alloc (.cells #[.bool g, .slice A xs.length c, .bool g2, .slice A2 ys.length c2, .bool g3, .slice A3 us.length c3, .bool g4, .slice A4 vs.length c4] 27)) w0.heap.size 27 [.bool g, .slice A xs.length c, .bool g2, .slice A2 ys.length c2, .bool g3, .slice A3 us.length c3, .bool g4, .slice A4 vs.length c4] := Blk.new_ rfl
 obtain ⟨p0, p1, p2, p3, _, _, _, _⟩ := b0.four
 obtain ⟨q0, q1, q2, q3, _, _, _, _⟩ := b1.four
 go_enter Tryz.func31, Tryz.ntmps31
 go_upto_region 1 with fail
 rw [← hw0]
 clear hw0
 go_wp2_with fail
 refine (AN.out _ _ j1 bs).mono ?_
 rintro e w2 ⟨zs, A1, c1, ys1, A5, c5, rfl, n1, n2, s1, s2, hb2⟩
 have i2 := bst j1 hb2 nl9
 have r2 := r0.below i2 r0.lt
 obtain ⟨_, _, _, _, f0, f1, f2, f3⟩ := r2.four
 have t1 := k0.size
 have t2 := j1.size
 clear AN p0 p1 p2 p3 q0 q1 q2 q3 bs b0 b1 r0 hb2
 go_wp2_with fail
 exact ra_ret (bst k0 i2 nl9) r2 (by omega) n1 n2 (s1.mono (by omega)) (s2.mono (by omega)) rfl rfl rfl rfl rfl rfl
end
end
section
open Go.RowKit
section
variable {w : World} {g g2 : Bool} {A A2 : Option Addr} {c c2 K : Nat} {xs ys : List Nat} {z y : Int}
theorem rmay_any (h2 : Zh w g2 A2 c2 ys y K) (hK : K ≤ 67108864) : Calls Tryz.prog 16 #[.agg #[.bool g, .slice A xs.length c, .bool g2, .slice A2 ys.length c2]] w fun e w' => e = .returned (.bool (decide (y ≠ 0))) ∧ Below w.heap.size w w' := by
 have k0 := bel_one w (.cells #[.bool g, .slice A xs.length c, .bool g2, .slice A2 ys.length c2] 27)
 have b0 : Blk (w.alloc (.cells #[.bool g, .slice A xs.length c, .bool g2, .slice A2 ys.length c2] 27)) w.heap.size 27 [.bool g, .slice A xs.length c, .bool g2, .slice A2 ys.length c2] := Blk.new_ rfl
 have SG := hi9 ((h2.next k0).rsign hK)
 have hs : (y.sign != 0) = decide (y ≠ 0) := by
  have := sign_zero9 y
  show (!(y.sign == 0)) = _
  rw [this]
  by_cases h : y = 0 <;> simp [h]
 obtain ⟨bv, hbv⟩ : ∃ b, b = decide (y ≠ 0) := ⟨_, rfl⟩
 obtain ⟨sg, hsg⟩ : ∃ s, s = y.sign := ⟨_, rfl⟩
 rw [← hsg] at SG hs
 rw [← hbv] at hs ⊢
 clear h2 hbv hsg
 obtain ⟨_, _, p2, p3, _, _, _, _⟩ := b0.four
 go_enter Tryz.func16, Tryz.ntmps16
 go_wp2_with fail
 refine SG.out.mono ?_
 rintro e w1 ⟨rfl, hb1⟩
 go_wp2_with fail
 go_ret
 exact ⟨rfl, bst k0 hb1 nl9⟩
set_option maxHeartbeats 3200000 in
theorem rnorm05_any (h : Zh w g A c xs z K) (h2 : Zh w g2 A2 c2 ys y K) (hK : K ≤ 33554431) (hy : y ≠ 0) :
  Calls Tryz.prog 18 #[.agg #[.bool g, .slice A xs.length c, .bool g2, .slice A2 ys.length c2]] w fun e w' => ROut w w' (lowN z y) (lowD z y) e := by
 have k0 := bel_two w (.cells #[.bool g, .slice A xs.length c, .bool g2, .slice A2 ys.length c2] 27) (.cells #[.bool false, .slice none 0 0, .bool false, .slice none 0 0] 27)
 have b0 : Blk ((w.alloc (.cells #[.bool g, .slice A xs.length c, .bool g2, .slice A2 ys.length c2] 27)).alloc (.cells #[.bool false, .slice none 0 0, .bool false, .slice none 0 0] 27)) w.heap.size 27 [.bool g, .slice A xs.length c, .bool g2, .slice A2 ys.length c2] := (Blk.new_ rfl).heapAlloc _
 have r0 : Blk ((w.alloc (.cells #[.bool g, .slice A xs.length c, .bool g2, .slice A2 ys.length c2] 27)).alloc (.cells #[.bool false, .slice none 0 0, .bool false, .slice none 0 0] 27)) (w.heap.size + 1) 27 [.bool false, .slice none 0 0, .bool false, .slice none 0 0] := by
  have := Blk.new_ (w := w.alloc (.cells #[.bool g, .slice A xs.length c, .bool g2, .slice A2 ys.length c2] 27)) (t := 27) (cs := #[.bool false, .slice none 0 0, .bool false, .slice none 0 0]) (vs := [.bool false, .slice none 0 0, .bool false, .slice none 0 0]) rfl
  simpa using this
 have LO := hi9 (rmake_any (h.next k0) (h2.next k0) hK hy)
 obtain ⟨n, hn⟩ : ∃ n, n = lowN z y := ⟨_, rfl⟩
 obtain ⟨d, hd⟩ : ∃ d, d = lowD z y := ⟨_, rfl⟩
 rw [← hn, ← hd] at LO ⊢
 clear hn hd h h2 hy
 go_enter Tryz.func18, Tryz.ntmps18
 go_upto_region 1 with fail
 obtain ⟨w0, hw0⟩ : ∃ v, v = (w.alloc (.cells #[.bool g, .slice A xs.length c, .bool g2, .slice A2 ys.length c2] 27)).alloc (.cells #[.bool false, .slice none 0 0, .bool false, .slice none 0 0] 27) := ⟨_, rfl⟩
 rw [← hw0] at k0 b0 r0 LO ⊢
 clear hw0
 obtain ⟨p0, p1, p2, p3, _, _, _, _⟩ := b0.four
 go_wp2_with fail
 refine LO.out.mono ?_
 rintro e w1 ⟨zs, A1, c1, ys1, A3, c3, rfl, n1, n2, q1, q2, hb2⟩
 have r2 := r0.below hb2 r0.lt
 obtain ⟨_, _, _, _, f0, f1, f2, f3⟩ := r2.four
 have s1 := k0.size
 clear LO p0 p1 p2 p3 b0 r0
 go_wp2_with fail
 exact rret (bst k0 hb2 nl9) r2 (by omega) n1 n2 (q1.mono s1) (q2.mono s1) rfl rfl rfl rfl rfl
end
end
section
open Go.RowKit
end
section
open Go.RowKit
set_option maxHeartbeats 800000 in
theorem zof_any (n : Int) (h1 : -9223372036854775808 ≤ n) (h2 : n ≤ 9223372036854775807) (w : World) : Calls Tryz.prog 75 #[.int .i64 n] w fun e w' => ZOut w w' n e := by
 have k0 := bel_one w (.cells #[.bool false, .slice none 0 0] 25)
 have b1 := blk_one w (.bool false) (.slice none 0 0)
 by_cases h0 : 0 ≤ n
 ·obtain ⟨k, rfl⟩ := Int.eq_ofNat_of_zero_le h0
  have N1 := hi9 (of_any k (by omega))
  clear h0
  go_enter Tryz.func75, Tryz.ntmps75
  go_wp2_with fail
  refine (N1.out _).mono ?_
  rintro e w1 ⟨zs, A', c', rfl, hz, hr, hb⟩
  have hsz := k0.size
  have k1 := bst k0 hb nl9
  replace b1 := b1.below hb b1.lt
  go_wp2_with fail
  refine (made_num false (k : Int) hz rfl _ (res_len hr)).mono ?_
  rintro e w2 ⟨rfl, hb2⟩
  replace b1 := b1.below hb2 b1.lt
  obtain ⟨q0, q1, q2, q3⟩ := b1.two
  go_wp2_with fail
  exact zretT (z := (k : Int)) (bst k1 hb2 nl9) b1 (by omega) (num_eq hz (by omega)) ((hr.mono hsz).below hb2 nl9) rfl rfl rfl rfl
 ·obtain ⟨k, rfl⟩ : ∃ k : Nat, n = -(k : Int) := ⟨(-n).toNat, by omega⟩
  have hk : 0 < k := by omega
  have hk2 : k ≤ 9223372036854775808 := by omega
  have N1 := hi9 (of_any k (by omega))
  have e1 : IntKind.u64.wrap (-IntKind.u64.wrap (-(k : Int))) = (k : Int) := by
   rw [IntKind.wrap_u64, IntKind.wrap_u64]; omega
  have E1 := hi9 e1
  clear h0 h1 h2 e1
  go_enter Tryz.func75, Tryz.ntmps75
  go_wp2_with fail
  rw [E1.out]
  refine (N1.out _).mono ?_
  rintro e w1 ⟨zs, A', c', rfl, hz, hr, hb⟩
  have hsz := k0.size
  have k1 := bst k0 hb nl9
  replace b1 := b1.below hb b1.lt
  go_wp2_with fail
  refine (made_num true (-(k : Int)) hz rfl _ (res_len hr)).mono ?_
  rintro e w2 ⟨rfl, hb2⟩
  replace b1 := b1.below hb2 b1.lt
  obtain ⟨q0, q1, q2, q3⟩ := b1.two
  go_wp2_with fail
  exact zretT (z := -(k : Int)) (bst k1 hb2 nl9) b1 (by omega) (num_eq hz (by omega)) ((hr.mono hsz).below hb2 nl9) rfl rfl rfl rfl
end
end Go.Proofs.YtbcphifjcaobfaaGreatDoor
