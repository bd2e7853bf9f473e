/- The contract of rat.Norm. The contract of rat.Norm. The contracts of the closures of rat.Mul and rat.Neg. The contract of rat.Neg. -/
import Derived.Test.YtbcphifjcaobfaaGreatDoorPkRp34
namespace Go.Proofs.YtbcphifjcaobfaaGreatDoor
section
open Go.RowKit
section
variable {w : World} {g g2 : Bool} {A A2 : Option Addr} {c c2 K gp : Nat} {xs ys : List Nat} {z y : Int}
set_option maxHeartbeats 3200000 in
theorem norm1_any (hb : Blk w gp 27 [.bool g, .slice A xs.length c, .bool g2, .slice A2 ys.length c2]) (h : Zh w g A c xs z K) (h2 : Zh w g2 A2 c2 ys y K) (hK : K ≤ 33554431) (hy : y ≠ 0) (hT : Tab64 w) (hTB : 1 < w.heap.size) :
  Calls Tryz.prog 59 #[.pointer (some ⟨gp, 0, none⟩)] w fun e w' => ROut w w' (lowN z y) (lowD z y) e := by
 have k0 := bel_one w (.cells #[.bool false, .slice none 0 0, .bool false, .slice none 0 0] 27)
 have b0 : Blk (w.alloc (.cells #[.bool false, .slice none 0 0, .bool false, .slice none 0 0] 27)) w.heap.size 27 [.bool false, .slice none 0 0, .bool false, .slice none 0 0] := Blk.new_ rfl
 have hb1 := hb.heapAlloc (.cells #[.bool false, .slice none 0 0, .bool false, .slice none 0 0] 27)
 have LO := hi9 (lowest_any (h.next k0) (h2.next k0) hK hy (hT.below k0 hTB) (Nat.lt_of_lt_of_le hTB k0.size))
 clear h h2 hT hTB hb
 obtain ⟨n, hn⟩ : ∃ n, n = lowN z y := ⟨_, rfl⟩
 obtain ⟨d, hd⟩ : ∃ d, d = lowD z y := ⟨_, rfl⟩
 rw [← hn, ← hd] at LO ⊢
 clear hn hd
 go_enter Tryz.func59, Tryz.ntmps59
 go_upto_region 1 with fail
 obtain ⟨w0, hw0⟩ : ∃ v, v = w.alloc (.cells #[.bool false, .slice none 0 0, .bool false, .slice none 0 0] 27) := ⟨_, rfl⟩
 rw [← hw0] at k0 b0 hb1 LO ⊢
 clear hw0
 obtain ⟨p0, p1, p2, p3, _, _, _, _⟩ := hb1.four
 go_wp2_with fail
 refine LO.out.mono ?_
 rintro e w1 ⟨zs, A1, c1, ys1, A3, c3, rfl, n1, n2, r1, r2, hb2⟩
 have b2 := b0.below hb2 b0.lt
 obtain ⟨_, _, _, _, f0, f1, f2, f3⟩ := b2.four
 clear LO hb1 p0 p1 p2 p3 b0
 go_wp2_with fail
 exact rret (bst k0 hb2 nl9) b2 nl9 n1 n2 (r1.mono k0.size) (r2.mono k0.size) rfl rfl rfl rfl rfl
theorem rl_one {W : World} {b : Nat} (h : Zh W g A c xs z K) (h2 : Zh W g2 A2 c2 ys y K) (hb : Blk W b 27 [.bool g, .slice A xs.length c, .bool g2, .slice A2 ys.length c2]) :
  RLs W K (some ⟨b, 0, none⟩) [⟨g, A, c, xs, z, g2, A2, c2, ys, y⟩] := fun k hk => by
 match k, hk with
 | 0, _ => exact ⟨b, 0, rfl, hb.lt, hb.cell 0, hb.cell 1, hb.cell 2, hb.cell 3, h, h2⟩
theorem bad_one : anyBad [⟨g, A, c, xs, z, g2, A2, c2, ys, y⟩] ↔ y = 0 := by
 constructor
 ·rintro ⟨k, hk, e⟩
  match k, hk with
  | 0, _ => exact e
 ·intro e
  exact ⟨0, by simp, e⟩
end
end
section
open Go.RowKit
section
variable {w : World} {g g2 : Bool} {A A2 : Option Addr} {c c2 K : Nat} {xs ys : List Nat} {z y : Int}
set_option maxHeartbeats 3200000 in
theorem ratnorm_good (h : Zh w g A c xs z K) (h2 : Zh w g2 A2 c2 ys y K) (hK : K ≤ 33554431) (hy : y ≠ 0) (hT : Tab64 w) (hTB : 1 < w.heap.size) :
  Calls Tryz.prog 12 #[.agg #[.bool g, .slice A xs.length c, .bool g2, .slice A2 ys.length c2]] w fun e w' => RAns w w' (lowN z y) (lowD z y) 0 e := by
 have k0 := bel_two w (.cells #[.bool g, .slice A xs.length c, .bool g2, .slice A2 ys.length c2] 27) (.cells #[.bool false, .slice none 0 0, .bool false, .slice none 0 0] 27)
 have b0 : Blk ((w.alloc (.cells #[.bool g, .slice A xs.length c, .bool g2, .slice A2 ys.length c2] 27)).alloc (.cells #[.bool false, .slice none 0 0, .bool false, .slice none 0 0] 27)) w.heap.size 27 [.bool g, .slice A xs.length c, .bool g2, .slice A2 ys.length c2] := (Blk.new_ rfl).heapAlloc _
 have r0 : Blk ((w.alloc (.cells #[.bool g, .slice A xs.length c, .bool g2, .slice A2 ys.length c2] 27)).alloc (.cells #[.bool false, .slice none 0 0, .bool false, .slice none 0 0] 27)) (w.heap.size + 1) 27 [.bool false, .slice none 0 0, .bool false, .slice none 0 0] := by
  have := Blk.new_ (w := w.alloc (.cells #[.bool g, .slice A xs.length c, .bool g2, .slice A2 ys.length c2] 27)) (t := 27) (cs := #[.bool false, .slice none 0 0, .bool false, .slice none 0 0]) (vs := [.bool false, .slice none 0 0, .bool false, .slice none 0 0]) rfl
  simpa using this
 obtain ⟨w0, hw0⟩ : ∃ v, v = (w.alloc (.cells #[.bool g, .slice A xs.length c, .bool g2, .slice A2 ys.length c2] 27)).alloc (.cells #[.bool false, .slice none 0 0, .bool false, .slice none 0 0] 27) := ⟨_, rfl⟩
 rw [← hw0] at k0 b0 r0
 have AN : Hid (∀ W b (_ : Below w0.heap.size w0 W) (_ : Blk W b 27 [.bool g, .slice A xs.length c, .bool g2, .slice A2 ys.length c2]), Calls Tryz.prog 58 #[.func (.func 59) #[] #[.pointer (some ⟨w.heap.size, 0, none⟩)], .slice (some ⟨b, 0, none⟩) 1 1] W fun e w' => RAns W w' (lowN z y) (lowD z y) 0 e) := fun W b hW hb => by
  have hz := h.next (bst k0 hW nl9)
  have hd := h2.next (bst k0 hW nl9)
  exact answer_norm_good (c := 1) (gp := w.heap.size) [⟨g, A, c, xs, z, g2, A2, c2, ys, y⟩] (rl_one hz hd hb) (by omega) (by simp) (fun e => hy (bad_one.1 e)) _ _ (fun V hV => norm1_any ((b0.below hW b0.lt).below hV (b0.below hW b0.lt).lt) (hz.next hV) (hd.next hV) hK hy (hT.below (bst (bst k0 hW nl9) hV nl9) hTB) (Nat.lt_of_lt_of_le hTB (bst (bst k0 hW nl9) hV nl9).size))
 obtain ⟨n, hn⟩ : ∃ n, n = lowN z y := ⟨_, rfl⟩
 obtain ⟨d, hd⟩ : ∃ d, d = lowD z y := ⟨_, rfl⟩
 rw [← hn, ← hd] at AN ⊢
 clear hn hd h h2 hy hT hTB
 have j1 := bel_one w0 (.cells #[.bool g, .slice A xs.length c, .bool g2, .slice A2 ys.length c2] 27)
 have bs : Blk (w0.alloc (.cells #[.bool g, .slice A xs.length c, .bool g2, .slice A2 ys.length c2] 27)) w0.heap.size 27 [.bool g, .slice A xs.length c, .bool g2, .slice A2 ys.length c2] := Blk.new_ rfl
 obtain ⟨p0, p1, p2, p3, _, _, _, _⟩ := b0.four
 go_enter Tryz.func12, Tryz.ntmps12
 go_upto_region 1 with fail
 rw [← hw0]
 clear hw0
 go_wp2_with fail
 refine (AN.out _ _ j1 bs).mono ?_
 rintro e w2 ⟨zs, A1, c1, ys1, A3, c3, rfl, n1, n2, q1, q2, hb2⟩
 have i2 := bst j1 hb2 nl9
 have r2 := r0.below i2 r0.lt
 obtain ⟨_, _, _, _, f0, f1, f2, f3⟩ := r2.four
 have s1 := k0.size
 have s2 := j1.size
 clear AN p0 p1 p2 p3 bs b0 r0 hb2
 go_wp2_with fail
 exact ra_ret (bst k0 i2 nl9) r2 (by omega) n1 n2 (q1.mono (by omega)) (q2.mono (by omega)) rfl rfl rfl rfl rfl rfl
set_option maxHeartbeats 3200000 in
theorem ratnorm_bad (h : Zh w g A c xs z K) (h2 : Zh w g2 A2 c2 ys y K) (hK : K ≤ 33554431) (hy : y = 0) :
  Calls Tryz.prog 12 #[.agg #[.bool g, .slice A xs.length c, .bool g2, .slice A2 ys.length c2]] w fun e w' => RAns w w' 0 0 6 e := by
 have k0 := bel_two w (.cells #[.bool g, .slice A xs.length c, .bool g2, .slice A2 ys.length c2] 27) (.cells #[.bool false, .slice none 0 0, .bool false, .slice none 0 0] 27)
 have b0 : Blk ((w.alloc (.cells #[.bool g, .slice A xs.length c, .bool g2, .slice A2 ys.length c2] 27)).alloc (.cells #[.bool false, .slice none 0 0, .bool false, .slice none 0 0] 27)) w.heap.size 27 [.bool g, .slice A xs.length c, .bool g2, .slice A2 ys.length c2] := (Blk.new_ rfl).heapAlloc _
 have r0 : Blk ((w.alloc (.cells #[.bool g, .slice A xs.length c, .bool g2, .slice A2 ys.length c2] 27)).alloc (.cells #[.bool false, .slice none 0 0, .bool false, .slice none 0 0] 27)) (w.heap.size + 1) 27 [.bool false, .slice none 0 0, .bool false, .slice none 0 0] := by
  have := Blk.new_ (w := w.alloc (.cells #[.bool g, .slice A xs.length c, .bool g2, .slice A2 ys.length c2] 27)) (t := 27) (cs := #[.bool false, .slice none 0 0, .bool false, .slice none 0 0]) (vs := [.bool false, .slice none 0 0, .bool false, .slice none 0 0]) rfl
  simpa using this
 obtain ⟨w0, hw0⟩ : ∃ v, v = (w.alloc (.cells #[.bool g, .slice A xs.length c, .bool g2, .slice A2 ys.length c2] 27)).alloc (.cells #[.bool false, .slice none 0 0, .bool false, .slice none 0 0] 27) := ⟨_, rfl⟩
 rw [← hw0] at k0 b0 r0
 have AN : Hid (∀ W b (_ : Below w0.heap.size w0 W) (_ : Blk W b 27 [.bool g, .slice A xs.length c, .bool g2, .slice A2 ys.length c2]), Calls Tryz.prog 58 #[.func (.func 59) #[] #[.pointer (some ⟨w.heap.size, 0, none⟩)], .slice (some ⟨b, 0, none⟩) 1 1] W fun e w' => RAns W w' 0 0 6 e) := fun W b hW hb => by
  have hz := h.next (bst k0 hW nl9)
  have hd := h2.next (bst k0 hW nl9)
  exact answer_norm_bad (c := 1) (gp := w.heap.size) [⟨g, A, c, xs, z, g2, A2, c2, ys, y⟩] (rl_one hz hd hb) (by omega) (by simp) (bad_one.2 hy)
 clear h h2 hy
 have j1 := bel_one w0 (.cells #[.bool g, .slice A xs.length c, .bool g2, .slice A2 ys.length c2] 27)
 have bs : Blk (w0.alloc (.cells #[.bool g, .slice A xs.length c, .bool g2, .slice A2 ys.length c2] 27)) w0.heap.size 27 [.bool g, .slice A xs.length c, .bool g2, .slice A2 ys.length c2] := Blk.new_ rfl
 obtain ⟨p0, p1, p2, p3, _, _, _, _⟩ := b0.four
 go_enter Tryz.func12, Tryz.ntmps12
 go_upto_region 1 with fail
 rw [← hw0]
 clear hw0
 go_wp2_with fail
 refine (AN.out _ _ j1 bs).mono ?_
 rintro e w2 ⟨zs, A1, c1, ys1, A3, c3, rfl, n1, n2, q1, q2, hb2⟩
 have i2 := bst j1 hb2 nl9
 have r2 := r0.below i2 r0.lt
 obtain ⟨_, _, _, _, f0, f1, f2, f3⟩ := r2.four
 have s1 := k0.size
 have s2 := j1.size
 clear AN p0 p1 p2 p3 bs b0 r0 hb2
 go_wp2_with fail
 exact ra_ret (bst k0 i2 nl9) r2 (by omega) n1 n2 (q1.mono (by omega)) (q2.mono (by omega)) rfl rfl rfl rfl rfl rfl
end
end
section
open Go.RowKit
section
variable {w : World} {g g2 g3 g4 : Bool} {A A2 A3 A4 : Option Addr} {c c2 c3 c4 K gp gq : Nat} {xs ys us vs : List Nat} {z y x v : Int}
theorem lowest_res {w1 w2 W : World} {N : Nat} {p q : Int} {zs zt : List Nat} {Aa Ab : Option Addr} {ca cb B1 B2 : Nat} (n1 : Num 4294967296 zs p.natAbs) (r1 : Res w1 B1 50 Aa ca (u32s zs)) (h1 : Below w1.heap.size w1 W) (l1 : p.natAbs < 4294967296 ^ N) (n2 : Num 4294967296 zt q.natAbs) (r2 : Res w2 B2 50 Ab cb (u32s zt)) (h2 : Below w2.heap.size w2 W) (l2 : q.natAbs < 4294967296 ^ N) (hN : N ≤ 33554431) (hq : q ≠ 0) (hT : Tab64 W) (hTB : 1 < W.heap.size) :
  Calls Tryz.prog 60 #[.agg #[.bool (isNeg p), .slice Aa zs.length ca], .agg #[.bool (isNeg q), .slice Ab zt.length cb]] W fun e w' => ROut W w' (lowN p q) (lowD p q) e :=
 lowest_any ((Zh.of (K := N) n1 r1 l1).next h1) ((Zh.of (K := N) n2 r2 l2).next h2) hN hq hT hTB
set_option maxHeartbeats 6400000 in
theorem mul1_any (hb : Blk w gp 27 [.bool g, .slice A xs.length c, .bool g2, .slice A2 ys.length c2]) (hc : Blk w gq 27 [.bool g3, .slice A3 us.length c3, .bool g4, .slice A4 vs.length c4]) (h : Zh w g A c xs z K) (h2 : Zh w g2 A2 c2 ys y K) (h3 : Zh w g3 A3 c3 us x K) (h4 : Zh w g4 A4 c4 vs v K) (hK : K ≤ 16777215) (hy : y ≠ 0) (hv : v ≠ 0) (hT : Tab64 w) (hTB : 1 < w.heap.size) :
  Calls Tryz.prog 85 #[.pointer (some ⟨gp, 0, none⟩), .pointer (some ⟨gq, 0, none⟩)] w fun e w' => ROut w w' (lowN (z * x) (y * v)) (lowD (z * x) (y * v)) e := by
 have k0 := bel_one w (.cells #[.bool false, .slice none 0 0, .bool false, .slice none 0 0] 27)
 have b0 : Blk (w.alloc (.cells #[.bool false, .slice none 0 0, .bool false, .slice none 0 0] 27)) w.heap.size 27 [.bool false, .slice none 0 0, .bool false, .slice none 0 0] := Blk.new_ rfl
 have H0 := hi9 (hb.heapAlloc (.cells #[.bool false, .slice none 0 0, .bool false, .slice none 0 0] 27))
 have H1 := hi9 (hc.heapAlloc (.cells #[.bool false, .slice none 0 0, .bool false, .slice none 0 0] 27))
 have M1 : Hid (∀ W (_ : Below w.heap.size w W), Calls Tryz.prog 66 #[.agg #[.bool g, .slice A xs.length c], .agg #[.bool g3, .slice A3 us.length c3]] W fun e w' => ZOut W w' (z * x) e) := fun W hW => (h.next hW).mul (h3.next hW) (by omega) (by omega)
 have M2 : Hid (∀ W (_ : Below w.heap.size w W), Calls Tryz.prog 66 #[.agg #[.bool g2, .slice A2 ys.length c2], .agg #[.bool g4, .slice A4 vs.length c4]] W fun e w' => ZOut W w' (y * v) e) := fun W hW => (h2.next hW).mul (h4.next hW) (by omega) (by omega)
 have l1 : (z * x).natAbs < 4294967296 ^ (K + K) := by rw [Int.natAbs_mul]; exact prod_lt_pow9 h.lt h3.lt
 have l2 : (y * v).natAbs < 4294967296 ^ (K + K) := by rw [Int.natAbs_mul]; exact prod_lt_pow9 h2.lt h4.lt
 have hq : y * v ≠ 0 := Int.mul_ne_zero hy hv
 have LO : Hid (∀ (zs zt : List Nat) (Aa Ab : Option Addr) (ca cb B1 B2 : Nat) (w1 w2 W : World), Num 4294967296 zs (z * x).natAbs → Res w1 B1 50 Aa ca (u32s zs) → Below w1.heap.size w1 W → Num 4294967296 zt (y * v).natAbs → Res w2 B2 50 Ab cb (u32s zt) → Below w2.heap.size w2 W → Below w.heap.size w W → Calls Tryz.prog 60 #[.agg #[.bool (isNeg (z * x)), .slice Aa zs.length ca], .agg #[.bool (isNeg (y * v)), .slice Ab zt.length cb]] W fun e w' => ROut W w' (lowN (z * x) (y * v)) (lowD (z * x) (y * v)) e) := fun zs zt Aa Ab ca cb B1 B2 w1 w2 W n1 r1 h1 n2 r2 h2 hW =>
  lowest_res n1 r1 h1 l1 n2 r2 h2 l2 (by omega) hq (hT.below hW hTB) (Nat.lt_of_lt_of_le hTB hW.size)
 obtain ⟨p, hp⟩ : ∃ p, p = z * x := ⟨_, rfl⟩
 obtain ⟨q, hq9⟩ : ∃ q, q = y * v := ⟨_, rfl⟩
 rw [← hp] at M1 LO
 rw [← hq9] at M2 LO
 rw [← hp, ← hq9]
 have n1 : gp ≠ w.heap.size := Nat.ne_of_lt hb.lt
 have n2 : gq ≠ w.heap.size := Nat.ne_of_lt hc.lt
 have n3 := Ne.symm n1
 have n4 := Ne.symm n2
 clear hb hc h h2 h3 h4 hy hv hT hTB l1 l2 hq hp hq9
 go_enter Tryz.func85, Tryz.ntmps85
 go_upto_region 1 with fail
 obtain ⟨w0, hw0⟩ : ∃ v, v = w.alloc (.cells #[.bool false, .slice none 0 0, .bool false, .slice none 0 0] 27) := ⟨_, rfl⟩
 rw [← hw0] at k0 b0 H0 H1 ⊢
 clear hw0
 obtain ⟨p0, p1, p2, p3, _, _, _, _⟩ := H0.out.four
 obtain ⟨q0, q1, q2, q3, _, _, _, _⟩ := H1.out.four
 go_region_held3 (fun W => W.cell? ⟨gp, 0, none⟩ = some (.bool g) ∧ W.cell? ⟨gp, 1, none⟩ = some (.slice A xs.length c) ∧ W.cell? ⟨gp, 2, none⟩ = some (.bool g2) ∧ W.cell? ⟨gp, 3, none⟩ = some (.slice A2 ys.length c2) ∧ W.cell? ⟨gq, 0, none⟩ = some (.bool g3) ∧ W.cell? ⟨gq, 1, none⟩ = some (.slice A3 us.length c3) ∧ W.cell? ⟨gq, 2, none⟩ = some (.bool g4) ∧ W.cell? ⟨gq, 3, none⟩ = some (.slice A4 vs.length c4)) (go_keep) (first
  | (go_at_call_of 66 (Value.agg #[Value.bool g, Value.slice A xs.length c]); (with_reducible refine (M1.out _ (bst k0 (by repeat (first | exact br9 | apply bdw | (refine bdn ?_ _))) nl9)).mono ?_); rintro e wa ⟨za, Aa, ca, rfl, hza, hra, hba⟩; have ma : Below w0.heap.size w0 wa := bst (by repeat (first | exact br9 | apply bdw | (refine bdn ?_ _))) hba nl9; obtain ⟨x0a, y0a, z0a, v0a, _, _, _, _⟩ := (H0.out.below ma H0.out.lt).four; obtain ⟨x1a, y1a, z1a, v1a, _, _, _, _⟩ := (H1.out.below ma H1.out.lt).four)
  | (go_at_call 66; (with_reducible refine (M2.out _ (bst k0 (by repeat (first | exact br9 | exact ma | apply bdw | (refine bdn ?_ _))) nl9)).mono ?_); rintro e wb ⟨zb, Ab, cb, rfl, hzb, hrb, hbb⟩; have mb : Below w0.heap.size w0 wb := bst (by repeat (first | exact br9 | exact ma | apply bdw | (refine bdn ?_ _))) hbb nl9; have ib : Below wa.heap.size wa wb := bst (by repeat (first | exact br9 | apply bdw | (refine bdn ?_ _))) hbb nl9; obtain ⟨x0b, y0b, z0b, v0b, _, _, _, _⟩ := (H0.out.below mb H0.out.lt).four; obtain ⟨x1b, y1b, z1b, v1b, _, _, _, _⟩ := (H1.out.below mb H1.out.lt).four)
  | (go_at_call 60; (with_reducible refine (LO.out za zb Aa Ab ca cb _ _ wa wb _ hza hra (by repeat (first | exact br9 | exact ib | apply bdw | (refine bdn ?_ _))) hzb hrb (by repeat (first | exact br9 | apply bdw | (refine bdn ?_ _))) (bst k0 (by repeat (first | exact br9 | exact mb | apply bdw | (refine bdn ?_ _))) nl9)).mono ?_); rintro e wc ⟨zs, A1, c1, ys1, A5, c5, rfl, k1, k2, r1, r2, hbc⟩; have mc : Below w0.heap.size w0 wc := bst (by repeat (first | exact br9 | exact mb | apply bdw | (refine bdn ?_ _))) hbc nl9; have b9 := b0.below mc b0.lt; obtain ⟨x0c, y0c, z0c, v0c, _, _, _, _⟩ := (H0.out.below mc H0.out.lt).four; obtain ⟨x1c, y1c, z1c, v1c, _, _, _, _⟩ := (H1.out.below mc H1.out.lt).four; obtain ⟨_, _, _, _, f0, f1, f2, f3⟩ := b9.four))
 all_goals
  go_wp2_with fail
  have s1 := k0.size
  have s2 := mb.size
  exact rret (bst k0 mc nl9) b9 nl9 k1 k2 (r1.mono (by first | omega | (simp; omega))) (r2.mono (by first | omega | (simp; omega))) rfl rfl rfl rfl rfl
end
end
section
open Go.RowKit
end
end Go.Proofs.YtbcphifjcaobfaaGreatDoor
