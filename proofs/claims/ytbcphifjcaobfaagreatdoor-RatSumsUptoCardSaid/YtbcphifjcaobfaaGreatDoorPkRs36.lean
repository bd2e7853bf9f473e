/- The contract of rat.Mul. The contracts of the reference's May and Norm on fractions. The contracts of the reference's Neg and Mul on fractions. The contracts of zint's Of and Near. -/
import Derived.Test.YtbcphifjcaobfaaGreatDoorPkRs35
import Derived.Test.YtbcphifjcaobfaaGreatDoorPkRs29
namespace Go.Proofs.YtbcphifjcaobfaaGreatDoor
section
open Go.RowKit
theorem blk_rrr (w : World) (a0 a1 a2 a3 b0 b1 b2 b3 c0 c1 c2 c3 : Value) :
  Blk (((w.alloc (.cells #[a0, a1, a2, a3] 27)).alloc (.cells #[b0, b1, b2, b3] 27)).alloc (.cells #[c0, c1, c2, c3] 27)) w.heap.size 27 [a0, a1, a2, a3] ∧
  Blk (((w.alloc (.cells #[a0, a1, a2, a3] 27)).alloc (.cells #[b0, b1, b2, b3] 27)).alloc (.cells #[c0, c1, c2, c3] 27)) (w.heap.size + 1) 27 [b0, b1, b2, b3] ∧
  Blk (((w.alloc (.cells #[a0, a1, a2, a3] 27)).alloc (.cells #[b0, b1, b2, b3] 27)).alloc (.cells #[c0, c1, c2, c3] 27)) (w.heap.size + 1 + 1) 27 [c0, c1, c2, c3] := by
 refine ⟨((Blk.new_ rfl).heapAlloc _).heapAlloc _, ?_, ?_⟩
 ·have h := Blk.new_ (w := w.alloc (.cells #[a0, a1, a2, a3] 27)) (t := 27) (cs := #[b0, b1, b2, b3]) (vs := [b0, b1, b2, b3]) rfl
  have h2 := h.heapAlloc (.cells #[c0, c1, c2, c3] 27)
  simpa using h2
 ·have h := Blk.new_ (w := (w.alloc (.cells #[a0, a1, a2, a3] 27)).alloc (.cells #[b0, b1, b2, b3] 27)) (t := 27) (cs := #[c0, c1, c2, c3]) (vs := [c0, c1, c2, c3]) rfl
  simpa using h
section
variable {w : World} {g g2 g3 g4 : Bool} {A A2 A3 A4 : Option Addr} {c c2 c3 c4 K : Nat} {xs ys us vs : List Nat} {z y x v : Int}
theorem rl_two {W : World} {b : Nat} (h : Zh W g A c xs z K) (h2 : Zh W g2 A2 c2 ys y K) (h3 : Zh W g3 A3 c3 us x K) (h4 : Zh W g4 A4 c4 vs v K) (hb : Blk W b 27 [.bool g, .slice A xs.length c, .bool g2, .slice A2 ys.length c2, .bool g3, .slice A3 us.length c3, .bool g4, .slice A4 vs.length c4]) :
  RLs W K (some ⟨b, 0, none⟩) [⟨g, A, c, xs, z, g2, A2, c2, ys, y⟩, ⟨g3, A3, c3, us, x, g4, A4, c4, vs, v⟩] := fun k hk => by
 match k, hk with
 | 0, _ => exact ⟨b, 0, rfl, hb.lt, hb.cell 0, hb.cell 1, hb.cell 2, hb.cell 3, h, h2⟩
 | 1, _ => exact ⟨b, 0, rfl, hb.lt, hb.cell 4, hb.cell 5, hb.cell 6, hb.cell 7, h3, h4⟩
theorem bad_two : anyBad [⟨g, A, c, xs, z, g2, A2, c2, ys, y⟩, ⟨g3, A3, c3, us, x, g4, A4, c4, vs, v⟩] ↔ y = 0 ∨ v = 0 := by
 constructor
 ·rintro ⟨k, hk, e⟩
  match k, hk with
  | 0, _ => exact Or.inl e
  | 1, _ => exact Or.inr e
 ·rintro (e | e)
  ·exact ⟨0, by simp, e⟩
  ·exact ⟨1, by simp, e⟩
set_option maxHeartbeats 3200000 in
theorem ratmul_good (h : Zh w g A c xs z K) (h2 : Zh w g2 A2 c2 ys y K) (h3 : Zh w g3 A3 c3 us x K) (h4 : Zh w g4 A4 c4 vs v K) (hK : K ≤ 16777215) (hy : y ≠ 0) (hv : v ≠ 0) (hT : Tab64 w) (hTB : 1 < w.heap.size) :
  Calls Tryz.prog 31 #[.agg #[.bool g, .slice A xs.length c, .bool g2, .slice A2 ys.length c2], .agg #[.bool g3, .slice A3 us.length c3, .bool g4, .slice A4 vs.length c4]] w fun e w' => RAns w w' (lowN (z * x) (y * v)) (lowD (z * x) (y * v)) 0 e := by
 obtain ⟨b0, b1, r0⟩ := blk_rrr w (.bool g) (.slice A xs.length c) (.bool g2) (.slice A2 ys.length c2) (.bool g3) (.slice A3 us.length c3) (.bool g4) (.slice A4 vs.length c4) (.bool false) (.slice none 0 0) (.bool false) (.slice none 0 0)
 have k0 := bel_three w (.cells #[.bool g, .slice A xs.length c, .bool g2, .slice A2 ys.length c2] 27) (.cells #[.bool g3, .slice A3 us.length c3, .bool g4, .slice A4 vs.length c4] 27) (.cells #[.bool false, .slice none 0 0, .bool false, .slice none 0 0] 27)
 obtain ⟨w0, hw0⟩ : ∃ v, v = ((w.alloc (.cells #[.bool g, .slice A xs.length c, .bool g2, .slice A2 ys.length c2] 27)).alloc (.cells #[.bool g3, .slice A3 us.length c3, .bool g4, .slice A4 vs.length c4] 27)).alloc (.cells #[.bool false, .slice none 0 0, .bool false, .slice none 0 0] 27) := ⟨_, rfl⟩
 rw [← hw0] at k0 b0 b1 r0
 have AN : Hid (∀ W b (_ : Below w0.heap.size w0 W) (_ : Blk W b 27 [.bool g, .slice A xs.length c, .bool g2, .slice A2 ys.length c2, .bool g3, .slice A3 us.length c3, .bool g4, .slice A4 vs.length c4]), Calls Tryz.prog 58 #[.func (.func 85) #[] #[.pointer (some ⟨w.heap.size, 0, none⟩), .pointer (some ⟨w.heap.size + 1, 0, none⟩)], .slice (some ⟨b, 0, none⟩) 2 2] W fun e w' => RAns W w' (lowN (z * x) (y * v)) (lowD (z * x) (y * v)) 0 e) := fun W b hW hb => by
  have kW := bst k0 hW nl9
  have hr := rl_two (h.next kW) (h2.next kW) (h3.next kW) (h4.next kW) hb
  exact answer_mul_good (c := 2) (gp := w.heap.size) (gq := w.heap.size + 1) [⟨g, A, c, xs, z, g2, A2, c2, ys, y⟩, ⟨g3, A3, c3, us, x, g4, A4, c4, vs, v⟩] hr (by omega) (by simp) (fun e => by rcases bad_two.1 e with e | e; exact hy e; exact hv e) _ _ (fun V hV => by
   have kV := bst kW hV nl9
   exact mul1_any ((b0.below hW b0.lt).below hV (b0.below hW b0.lt).lt) ((b1.below hW b1.lt).below hV (b1.below hW b1.lt).lt) (h.next kV) (h2.next kV) (h3.next kV) (h4.next kV) hK hy hv (hT.below kV hTB) (Nat.lt_of_lt_of_le hTB kV.size))
 obtain ⟨n, hn⟩ : ∃ n, n = lowN (z * x) (y * v) := ⟨_, rfl⟩
 obtain ⟨d, hd⟩ : ∃ d, d = lowD (z * x) (y * v) := ⟨_, rfl⟩
 rw [← hn, ← hd] at AN ⊢
 clear hn hd h h2 h3 h4 hy hv hT hTB
 have j1 := bel_one w0 (.cells #[.bool g, .slice A xs.length c, .bool g2, .slice A2 ys.length c2, .bool g3, .slice A3 us.length c3, .bool g4, .slice A4 vs.length c4] 27)
 have bs : Blk (w0.alloc (.cells #[.bool g, .slice A xs.length c, .bool g2, .slice A2 ys.length c2, .bool g3, .slice A3 us.length c3, .bool g4, .slice A4 vs.length c4] 27)) w0.heap.size 27 [.bool g, .slice A xs.length c, .bool g2, .slice A2 ys.length c2, .bool g3, .slice A3 us.length c3, .bool g4, .slice A4 vs.length c4] := Blk.new_ rfl
 obtain ⟨p0, p1, p2, p3, _, _, _, _⟩ := b0.four
 obtain ⟨q0, q1, q2, q3, _, _, _, _⟩ := b1.four
 go_enter Tryz.func31, Tryz.ntmps31
 go_upto_region 1 with fail
 rw [← hw0]
 clear hw0
 go_wp2_with fail
 refine (AN.out _ _ j1 bs).mono ?_
 rintro e w2 ⟨zs, A1, c1, ys1, A5, c5, rfl, n1, n2, s1, s2, hb2⟩
 have i2 := bst j1 hb2 nl9
 have r2 := r0.below i2 r0.lt
 obtain ⟨_, _, _, _, f0, f1, f2, f3⟩ := r2.four
 have t1 := k0.size
 have t2 := j1.size
 clear AN p0 p1 p2 p3 q0 q1 q2 q3 bs b0 b1 r0 hb2
 go_wp2_with fail
 exact ra_ret (bst k0 i2 nl9) r2 (by omega) n1 n2 (s1.mono (by omega)) (s2.mono (by omega)) rfl rfl rfl rfl rfl rfl
set_option maxHeartbeats 3200000 in
theorem ratmul_bad (h : Zh w g A c xs z K) (h2 : Zh w g2 A2 c2 ys y K) (h3 : Zh w g3 A3 c3 us x K) (h4 : Zh w g4 A4 c4 vs v K) (hK : K ≤ 16777215) (hy : y = 0 ∨ v = 0) :
  Calls Tryz.prog 31 #[.agg #[.bool g, .slice A xs.length c, .bool g2, .slice A2 ys.length c2], .agg #[.bool g3, .slice A3 us.length c3, .bool g4, .slice A4 vs.length c4]] w fun e w' => RAns w w' 0 0 6 e := by
 obtain ⟨b0, b1, r0⟩ := blk_rrr w (.bool g) (.slice A xs.length c) (.bool g2) (.slice A2 ys.length c2) (.bool g3) (.slice A3 us.length c3) (.bool g4) (.slice A4 vs.length c4) (.bool false) (.slice none 0 0) (.bool false) (.slice none 0 0)
 have k0 := bel_three w (.cells #[.bool g, .slice A xs.length c, .bool g2, .slice A2 ys.length c2] 27) (.cells #[.bool g3, .slice A3 us.length c3, .bool g4, .slice A4 vs.length c4] 27) (.cells #[.bool false, .slice none 0 0, .bool false, .slice none 0 0] 27)
 obtain ⟨w0, hw0⟩ : ∃ v, v = ((w.alloc (.cells #[.bool g, .slice A xs.length c, .bool g2, .slice A2 ys.length c2] 27)).alloc (.cells #[.bool g3, .slice A3 us.length c3, .bool g4, .slice A4 vs.length c4] 27)).alloc (.cells #[.bool false, .slice none 0 0, .bool false, .slice none 0 0] 27) := ⟨_, rfl⟩
 rw [← hw0] at k0 b0 b1 r0
 have AN : Hid (∀ W b (_ : Below w0.heap.size w0 W) (_ : Blk W b 27 [.bool g, .slice A xs.length c, .bool g2, .slice A2 ys.length c2, .bool g3, .slice A3 us.length c3, .bool g4, .slice A4 vs.length c4]), Calls Tryz.prog 58 #[.func (.func 85) #[] #[.pointer (some ⟨w.heap.size, 0, none⟩), .pointer (some ⟨w.heap.size + 1, 0, none⟩)], .slice (some ⟨b, 0, none⟩) 2 2] W fun e w' => RAns W w' 0 0 6 e) := fun W b hW hb => by
  have kW := bst k0 hW nl9
  have hr := rl_two (h.next kW) (h2.next kW) (h3.next kW) (h4.next kW) hb
  exact answer_mul_bad (c := 2) (gp := w.heap.size) (gq := w.heap.size + 1) [⟨g, A, c, xs, z, g2, A2, c2, ys, y⟩, ⟨g3, A3, c3, us, x, g4, A4, c4, vs, v⟩] hr (by omega) (by simp) (bad_two.2 hy)
 clear h h2 h3 h4 hy
 have j1 := bel_one w0 (.cells #[.bool g, .slice A xs.length c, .bool g2, .slice A2 ys.length c2, .bool g3, .slice A3 us.length c3, .bool g4, .slice A4 vs.length c4] 27)
 have bs : Blk (w0.alloc (.cells #[.bool g, .slice A xs.length c, .bool g2, .slice A2 ys.length c2, .bool g3, .slice A3 us.length c3, .bool g4, .slice A4 vs.length c4] 27)) w0.heap.size 27 [.bool g, .slice A xs.length c, .bool g2, .slice A2 ys.length c2, .bool g3, .slice A3 us.length c3, .bool g4, .slice A4 vs.length c4] := Blk.new_ rfl
 obtain ⟨p0, p1, p2, p3, _, _, _, _⟩ := b0.four
 obtain ⟨q0, q1, q2, q3, _, _, _, _⟩ := b1.four
 go_enter Tryz.func31, Tryz.ntmps31
 go_upto_region 1 with fail
 rw [← hw0]
 clear hw0
 go_wp2_with fail
 refine (AN.out _ _ j1 bs).mono ?_
 rintro e w2 ⟨zs, A1, c1, ys1, A5, c5, rfl, n1, n2, s1, s2, hb2⟩
 have i2 := bst j1 hb2 nl9
 have r2 := r0.below i2 r0.lt
 obtain ⟨_, _, _, _, f0, f1, f2, f3⟩ := r2.four
 have t1 := k0.size
 have t2 := j1.size
 clear AN p0 p1 p2 p3 q0 q1 q2 q3 bs b0 b1 r0 hb2
 go_wp2_with fail
 exact ra_ret (bst k0 i2 nl9) r2 (by omega) n1 n2 (s1.mono (by omega)) (s2.mono (by omega)) rfl rfl rfl rfl rfl rfl
end
end
section
open Go.RowKit
section
variable {w : World} {g g2 : Bool} {A A2 : Option Addr} {c c2 K : Nat} {xs ys : List Nat} {z y : Int}
theorem rmay_any (h2 : Zh w g2 A2 c2 ys y K) (hK : K ≤ 67108864) : Calls Tryz.prog 16 #[.agg #[.bool g, .slice A xs.length c, .bool g2, .slice A2 ys.length c2]] w fun e w' => e = .returned (.bool (decide (y ≠ 0))) ∧ Below w.heap.size w w' := by
 have k0 := bel_one w (.cells #[.bool g, .slice A xs.length c, .bool g2, .slice A2 ys.length c2] 27)
 have b0 : Blk (w.alloc (.cells #[.bool g, .slice A xs.length c, .bool g2, .slice A2 ys.length c2] 27)) w.heap.size 27 [.bool g, .slice A xs.length c, .bool g2, .slice A2 ys.length c2] := Blk.new_ rfl
 have SG := hi9 ((h2.next k0).rsign hK)
 have hs : (y.sign != 0) = decide (y ≠ 0) := by
  have := sign_zero9 y
  show (!(y.sign == 0)) = _
  rw [this]
  by_cases h : y = 0 <;> simp [h]
 obtain ⟨bv, hbv⟩ : ∃ b, b = decide (y ≠ 0) := ⟨_, rfl⟩
 obtain ⟨sg, hsg⟩ : ∃ s, s = y.sign := ⟨_, rfl⟩
 rw [← hsg] at SG hs
 rw [← hbv] at hs ⊢
 clear h2 hbv hsg
 obtain ⟨_, _, p2, p3, _, _, _, _⟩ := b0.four
 go_enter Tryz.func16, Tryz.ntmps16
 go_wp2_with fail
 refine SG.out.mono ?_
 rintro e w1 ⟨rfl, hb1⟩
 go_wp2_with fail
 go_ret
 exact ⟨rfl, bst k0 hb1 nl9⟩
end
end
section
open Go.RowKit
section
variable {w : World} {g g2 g3 g4 : Bool} {A A2 A3 A4 : Option Addr} {c c2 c3 c4 K : Nat} {xs ys us vs : List Nat} {z y x v : Int}
set_option maxHeartbeats 6400000 in
theorem rmul05_any (h : Zh w g A c xs z K) (h2 : Zh w g2 A2 c2 ys y K) (h3 : Zh w g3 A3 c3 us x K) (h4 : Zh w g4 A4 c4 vs v K) (hK : K ≤ 8388607) (hy : y ≠ 0) (hv : v ≠ 0) :
  Calls Tryz.prog 35 #[.agg #[.bool g, .slice A xs.length c, .bool g2, .slice A2 ys.length c2], .agg #[.bool g3, .slice A3 us.length c3, .bool g4, .slice A4 vs.length c4]] w fun e w' => ROut w w' (lowN (z * x) (y * v)) (lowD (z * x) (y * v)) e := by
 obtain ⟨b0, b1, r0⟩ := blk_rrr w (.bool g) (.slice A xs.length c) (.bool g2) (.slice A2 ys.length c2) (.bool g3) (.slice A3 us.length c3) (.bool g4) (.slice A4 vs.length c4) (.bool false) (.slice none 0 0) (.bool false) (.slice none 0 0)
 have k0 := bel_three w (.cells #[.bool g, .slice A xs.length c, .bool g2, .slice A2 ys.length c2] 27) (.cells #[.bool g3, .slice A3 us.length c3, .bool g4, .slice A4 vs.length c4] 27) (.cells #[.bool false, .slice none 0 0, .bool false, .slice none 0 0] 27)
 have M1 : Hid (∀ W (_ : Below w.heap.size w W), Calls Tryz.prog 88 #[.agg #[.bool g, .slice A xs.length c], .agg #[.bool g3, .slice A3 us.length c3]] W fun e w' => ZOut W w' (z * x) e) := fun W hW => (h.next hW).rmul (h3.next hW) (by omega)
 have M2 : Hid (∀ W (_ : Below w.heap.size w W), Calls Tryz.prog 88 #[.agg #[.bool g2, .slice A2 ys.length c2], .agg #[.bool g4, .slice A4 vs.length c4]] W fun e w' => ZOut W w' (y * v) e) := fun W hW => (h2.next hW).rmul (h4.next hW) (by omega)
 have l1 : (z * x).natAbs < 4294967296 ^ (K + K) := by rw [Int.natAbs_mul]; exact prod_lt_pow9 h.lt h3.lt
 have l2 : (y * v).natAbs < 4294967296 ^ (K + K) := by rw [Int.natAbs_mul]; exact prod_lt_pow9 h2.lt h4.lt
 have hq : y * v ≠ 0 := Int.mul_ne_zero hy hv
 have LO : Hid (∀ (zs zt : List Nat) (Aa Ab : Option Addr) (ca cb B1 B2 : Nat) (w1 w2 W : World), Num 4294967296 zs (z * x).natAbs → Res w1 B1 50 Aa ca (u32s zs) → Below w1.heap.size w1 W → Num 4294967296 zt (y * v).natAbs → Res w2 B2 50 Ab cb (u32s zt) → Below w2.heap.size w2 W → Calls Tryz.prog 72 #[.agg #[.bool (isNeg (z * x)), .slice Aa zs.length ca], .agg #[.bool (isNeg (y * v)), .slice Ab zt.length cb]] W fun e w' => ROut W w' (lowN (z * x) (y * v)) (lowD (z * x) (y * v)) e) := fun zs zt Aa Ab ca cb B1 B2 w1 w2 W n1 r1 h1 n2 r2 h2 =>
  rmake_any ((Zh.of (K := K + K) n1 r1 l1).next h1) ((Zh.of (K := K + K) n2 r2 l2).next h2) (by omega) hq
 obtain ⟨p, hp⟩ : ∃ p, p = z * x := ⟨_, rfl⟩
 obtain ⟨q, hq9⟩ : ∃ q, q = y * v := ⟨_, rfl⟩
 rw [← hp] at M1 LO
 rw [← hq9] at M2 LO
 rw [← hp, ← hq9]
 have n1 : w.heap.size ≠ w.heap.size + 1 + 1 := by omega
 have n2 : w.heap.size + 1 ≠ w.heap.size + 1 + 1 := by omega
 have n3 := Ne.symm n1
 have n4 := Ne.symm n2
 clear h h2 h3 h4 hy hv l1 l2 hq hp hq9
 go_enter Tryz.func35, Tryz.ntmps35
 go_upto_region 1 with fail
 obtain ⟨w0, hw0⟩ : ∃ v, v = ((w.alloc (.cells #[.bool g, .slice A xs.length c, .bool g2, .slice A2 ys.length c2] 27)).alloc (.cells #[.bool g3, .slice A3 us.length c3, .bool g4, .slice A4 vs.length c4] 27)).alloc (.cells #[.bool false, .slice none 0 0, .bool false, .slice none 0 0] 27) := ⟨_, rfl⟩
 rw [← hw0] at k0 b0 b1 r0 ⊢
 clear hw0
 have H0 := hi9 b0
 have H1 := hi9 b1
 clear b0 b1
 obtain ⟨p0, p1, p2, p3, _, _, _, _⟩ := H0.out.four
 obtain ⟨q0, q1, q2, q3, _, _, _, _⟩ := H1.out.four
 go_region_held3 (fun W => W.cell? ⟨w.heap.size, 0, none⟩ = some (.bool g) ∧ W.cell? ⟨w.heap.size, 1, none⟩ = some (.slice A xs.length c) ∧ W.cell? ⟨w.heap.size, 2, none⟩ = some (.bool g2) ∧ W.cell? ⟨w.heap.size, 3, none⟩ = some (.slice A2 ys.length c2) ∧ W.cell? ⟨w.heap.size + 1, 0, none⟩ = some (.bool g3) ∧ W.cell? ⟨w.heap.size + 1, 1, none⟩ = some (.slice A3 us.length c3) ∧ W.cell? ⟨w.heap.size + 1, 2, none⟩ = some (.bool g4) ∧ W.cell? ⟨w.heap.size + 1, 3, none⟩ = some (.slice A4 vs.length c4)) (go_keep) (first
  | (go_at_call_of 88 (Value.agg #[Value.bool g, Value.slice A xs.length c]); (with_reducible refine (M1.out _ (bst k0 (by repeat (first | exact br9 | apply bdw | (refine bdn ?_ _))) nl9)).mono ?_); rintro e wa ⟨za, Aa, ca, rfl, hza, hra, hba⟩; have ma : Below w0.heap.size w0 wa := bst (by repeat (first | exact br9 | apply bdw | (refine bdn ?_ _))) hba nl9; obtain ⟨x0a, y0a, z0a, v0a, _, _, _, _⟩ := (H0.out.below ma H0.out.lt).four; obtain ⟨x1a, y1a, z1a, v1a, _, _, _, _⟩ := (H1.out.below ma H1.out.lt).four)
  | (go_at_call 88; (with_reducible refine (M2.out _ (bst k0 (by repeat (first | exact br9 | exact ma | apply bdw | (refine bdn ?_ _))) nl9)).mono ?_); rintro e wb ⟨zb, Ab, cb, rfl, hzb, hrb, hbb⟩; have mb : Below w0.heap.size w0 wb := bst (by repeat (first | exact br9 | exact ma | apply bdw | (refine bdn ?_ _))) hbb nl9; have ib : Below wa.heap.size wa wb := bst (by repeat (first | exact br9 | apply bdw | (refine bdn ?_ _))) hbb nl9; obtain ⟨x0b, y0b, z0b, v0b, _, _, _, _⟩ := (H0.out.below mb H0.out.lt).four; obtain ⟨x1b, y1b, z1b, v1b, _, _, _, _⟩ := (H1.out.below mb H1.out.lt).four)
  | (go_at_call 72; (with_reducible refine (LO.out za zb Aa Ab ca cb _ _ wa wb _ hza hra (by repeat (first | exact br9 | exact ib | apply bdw | (refine bdn ?_ _))) hzb hrb (by repeat (first | exact br9 | apply bdw | (refine bdn ?_ _)))).mono ?_); rintro e wc ⟨zs, A1, c1, ys1, A5, c5, rfl, k1, k2, r1, r2, hbc⟩; have mc : Below w0.heap.size w0 wc := bst (by repeat (first | exact br9 | exact mb | apply bdw | (refine bdn ?_ _))) hbc nl9; have b9 := r0.below mc r0.lt; obtain ⟨x0c, y0c, z0c, v0c, _, _, _, _⟩ := (H0.out.below mc H0.out.lt).four; obtain ⟨x1c, y1c, z1c, v1c, _, _, _, _⟩ := (H1.out.below mc H1.out.lt).four; obtain ⟨_, _, _, _, f0, f1, f2, f3⟩ := b9.four))
 all_goals
  go_wp2_with fail
  have s1 := k0.size
  have s2 := mb.size
  exact rret (bst k0 mc nl9) b9 (by omega) k1 k2 (r1.mono (by first | omega | (simp; omega))) (r2.mono (by first | omega | (simp; omega))) rfl rfl rfl rfl rfl
set_option maxHeartbeats 6400000 in
theorem rneg05_any (h : Zh w g A c xs z K) (h2 : Zh w g2 A2 c2 ys y K) (hK : K ≤ 33554431) (hy : y ≠ 0) :
  Calls Tryz.prog 32 #[.agg #[.bool g, .slice A xs.length c, .bool g2, .slice A2 ys.length c2]] w fun e w' => ROut w w' (lowN (-z) y) (lowD (-z) y) e := by
 have k0 := bel_two w (.cells #[.bool g, .slice A xs.length c, .bool g2, .slice A2 ys.length c2] 27) (.cells #[.bool false, .slice none 0 0, .bool false, .slice none 0 0] 27)
 have b0 : Blk ((w.alloc (.cells #[.bool g, .slice A xs.length c, .bool g2, .slice A2 ys.length c2] 27)).alloc (.cells #[.bool false, .slice none 0 0, .bool false, .slice none 0 0] 27)) w.heap.size 27 [.bool g, .slice A xs.length c, .bool g2, .slice A2 ys.length c2] := (Blk.new_ rfl).heapAlloc _
 have r0 : Blk ((w.alloc (.cells #[.bool g, .slice A xs.length c, .bool g2, .slice A2 ys.length c2] 27)).alloc (.cells #[.bool false, .slice none 0 0, .bool false, .slice none 0 0] 27)) (w.heap.size + 1) 27 [.bool false, .slice none 0 0, .bool false, .slice none 0 0] := by
  have := Blk.new_ (w := w.alloc (.cells #[.bool g, .slice A xs.length c, .bool g2, .slice A2 ys.length c2] 27)) (t := 27) (cs := #[.bool false, .slice none 0 0, .bool false, .slice none 0 0]) (vs := [.bool false, .slice none 0 0, .bool false, .slice none 0 0]) rfl
  simpa using this
 have M1 : Hid (∀ W (_ : Below w.heap.size w W), Calls Tryz.prog 86 #[.agg #[.bool g, .slice A xs.length c]] W fun e w' => ZOut W w' (-z) e) := fun W hW => (h.next hW).rneg (by omega)
 have l1 : (-z).natAbs < 4294967296 ^ K := by rw [Int.natAbs_neg]; exact h.lt
 have LO : Hid (∀ (zs : List Nat) (Aa : Option Addr) (ca B1 : Nat) (w1 W : World), Num 4294967296 zs (-z).natAbs → Res w1 B1 50 Aa ca (u32s zs) → Below w1.heap.size w1 W → Below w.heap.size w W → Calls Tryz.prog 72 #[.agg #[.bool (isNeg (-z)), .slice Aa zs.length ca], .agg #[.bool g2, .slice A2 ys.length c2]] W fun e w' => ROut W w' (lowN (-z) y) (lowD (-z) y) e) := fun zs Aa ca B1 w1 W n1 r1 h1 hW =>
  rmake_any ((Zh.of (K := K) n1 r1 l1).next h1) (h2.next hW) hK hy
 obtain ⟨p, hp⟩ : ∃ p, p = -z := ⟨_, rfl⟩
 rw [← hp] at M1 LO
 rw [← hp]
 have n1 : w.heap.size ≠ w.heap.size + 1 := by omega
 have n3 := Ne.symm n1
 clear h h2 hy l1 hp
 go_enter Tryz.func32, Tryz.ntmps32
 go_upto_region 1 with fail
 obtain ⟨w0, hw0⟩ : ∃ v, v = (w.alloc (.cells #[.bool g, .slice A xs.length c, .bool g2, .slice A2 ys.length c2] 27)).alloc (.cells #[.bool false, .slice none 0 0, .bool false, .slice none 0 0] 27) := ⟨_, rfl⟩
 rw [← hw0] at k0 b0 r0 ⊢
 clear hw0
 have H0 := hi9 b0
 clear b0
 obtain ⟨p0, p1, p2, p3, _, _, _, _⟩ := H0.out.four
 go_region_held3 (fun W => W.cell? ⟨w.heap.size, 0, none⟩ = some (.bool g) ∧ W.cell? ⟨w.heap.size, 1, none⟩ = some (.slice A xs.length c) ∧ W.cell? ⟨w.heap.size, 2, none⟩ = some (.bool g2) ∧ W.cell? ⟨w.heap.size, 3, none⟩ = some (.slice A2 ys.length c2)) (go_keep) (first
  | (go_at_call 86; (with_reducible refine (M1.out _ (bst k0 (by repeat (first | exact br9 | apply bdw | (refine bdn ?_ _))) nl9)).mono ?_); rintro e wa ⟨za, Aa, ca, rfl, hza, hra, hba⟩; have ma : Below w0.heap.size w0 wa := bst (by repeat (first | exact br9 | apply bdw | (refine bdn ?_ _))) hba nl9; obtain ⟨x0a, y0a, z0a, v0a, _, _, _, _⟩ := (H0.out.below ma H0.out.lt).four)
  | (go_at_call 72; (with_reducible refine (LO.out za Aa ca _ wa _ hza hra (by repeat (first | exact br9 | apply bdw | (refine bdn ?_ _))) (bst k0 (by repeat (first | exact br9 | exact ma | apply bdw | (refine bdn ?_ _))) nl9)).mono ?_); rintro e wc ⟨zs, A1, c1, ys1, A5, c5, rfl, k1, k2, r1, r2, hbc⟩; have mc : Below w0.heap.size w0 wc := bst (by repeat (first | exact br9 | exact ma | apply bdw | (refine bdn ?_ _))) hbc nl9; have b9 := r0.below mc r0.lt; obtain ⟨x0c, y0c, z0c, v0c, _, _, _, _⟩ := (H0.out.below mc H0.out.lt).four; obtain ⟨_, _, _, _, f0, f1, f2, f3⟩ := b9.four))
 all_goals
  go_wp2_with fail
  have s1 := k0.size
  have s2 := ma.size
  exact rret (bst k0 mc nl9) b9 (by omega) k1 k2 (r1.mono (by first | omega | (simp; omega))) (r2.mono (by first | omega | (simp; omega))) rfl rfl rfl rfl rfl
end
end
section
open Go.RowKit
set_option maxHeartbeats 800000 in
theorem zof_any (n : Int) (h1 : -9223372036854775808 ≤ n) (h2 : n ≤ 9223372036854775807) (w : World) : Calls Tryz.prog 75 #[.int .i64 n] w fun e w' => ZOut w w' n e := by
 have k0 := bel_one w (.cells #[.bool false, .slice none 0 0] 25)
 have b1 := blk_one w (.bool false) (.slice none 0 0)
 by_cases h0 : 0 ≤ n
 ·obtain ⟨k, rfl⟩ := Int.eq_ofNat_of_zero_le h0
  have N1 := hi9 (of_any k (by omega))
  clear h0
  go_enter Tryz.func75, Tryz.ntmps75
  go_wp2_with fail
  refine (N1.out _).mono ?_
  rintro e w1 ⟨zs, A', c', rfl, hz, hr, hb⟩
  have hsz := k0.size
  have k1 := bst k0 hb nl9
  replace b1 := b1.below hb b1.lt
  go_wp2_with fail
  refine (made_num false (k : Int) hz rfl _ (res_len hr)).mono ?_
  rintro e w2 ⟨rfl, hb2⟩
  replace b1 := b1.below hb2 b1.lt
  obtain ⟨q0, q1, q2, q3⟩ := b1.two
  go_wp2_with fail
  exact zretT (z := (k : Int)) (bst k1 hb2 nl9) b1 (by omega) (num_eq hz (by omega)) ((hr.mono hsz).below hb2 nl9) rfl rfl rfl rfl
 ·obtain ⟨k, rfl⟩ : ∃ k : Nat, n = -(k : Int) := ⟨(-n).toNat, by omega⟩
  have hk : 0 < k := by omega
  have hk2 : k ≤ 9223372036854775808 := by omega
  have N1 := hi9 (of_any k (by omega))
  have e1 : IntKind.u64.wrap (-IntKind.u64.wrap (-(k : Int))) = (k : Int) := by
   rw [IntKind.wrap_u64, IntKind.wrap_u64]; omega
  have E1 := hi9 e1
  clear h0 h1 h2 e1
  go_enter Tryz.func75, Tryz.ntmps75
  go_wp2_with fail
  rw [E1.out]
  refine (N1.out _).mono ?_
  rintro e w1 ⟨zs, A', c', rfl, hz, hr, hb⟩
  have hsz := k0.size
  have k1 := bst k0 hb nl9
  replace b1 := b1.below hb b1.lt
  go_wp2_with fail
  refine (made_num true (-(k : Int)) hz rfl _ (res_len hr)).mono ?_
  rintro e w2 ⟨rfl, hb2⟩
  replace b1 := b1.below hb2 b1.lt
  obtain ⟨q0, q1, q2, q3⟩ := b1.two
  go_wp2_with fail
  exact zretT (z := -(k : Int)) (bst k1 hb2 nl9) b1 (by omega) (num_eq hz (by omega)) ((hr.mono hsz).below hb2 nl9) rfl rfl rfl rfl
end
end Go.Proofs.YtbcphifjcaobfaaGreatDoor
