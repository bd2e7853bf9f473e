/- The contract of rat.Mul. The contracts of the reference's May and Norm on fractions. The contracts of the reference's Neg and Mul on fractions. The contracts of zint's Of and Near. -/
import Derived.Test.YtbcphifjcaobfaaGreatDoorPkRf35
import Derived.Test.YtbcphifjcaobfaaGreatDoorPkRf29
namespace Go.Proofs.YtbcphifjcaobfaaGreatDoor
section
open Go.RowKit
theorem blk_rrr (w : World) (a0 a1 a2 a3 b0 b1 b2 b3 c0 c1 c2 c3 : Value) :
  Blk (((w.alloc (.cells #[a0, a1, a2, a3] 27)).alloc (.cells #[b0, b1, b2, b3] 27)).alloc (.cells #[c0, c1, c2, c3] 27)) w.heap.size 27 [a0, a1, a2, a3] ∧
  Blk (((w.alloc (.cells #[a0, a1, a2, a3] 27)).alloc (.cells #[b0, b1, b2, b3] 27)).alloc (.cells #[c0, c1, c2, c3] 27)) (w.heap.size + 1) 27 [b0, b1, b2, b3] ∧
  Blk (((w.alloc (.cells #[a0, a1, a2, a3] 27)).alloc (.cells #[b0, b1, b2, b3] 27)).alloc (.cells #[c0, c1, c2, c3] 27)) (w.heap.size + 1 + 1) 27 [c0, c1, c2, c3] := by
 refine ⟨((Blk.new_ rfl).heapAlloc _).heapAlloc _, ?_, ?_⟩
 ·have h := Blk.new_ (w := w.alloc (.cells #[a0, a1, a2, a3] 27)) (t := 27) (cs := #[b0, b1, b2, b3]) (vs := [b0, b1, b2, b3]) rfl
  have h2 := h.heapAlloc (.cells #[c0, c1, c2, c3] 27)
  simpa using h2
 ·have h := Blk.new_ (w := (w.alloc (.cells #[a0, a1, a2, a3] 27)).alloc (.cells #[b0, b1, b2, b3] 27)) (t := 27) (cs := #[c0, c1, c2, c3]) (vs := [c0, c1, c2, c3]) rfl
  simpa using h
section
variable {w : World} {g g2 g3 g4 : Bool} {A A2 A3 A4 : Option Addr} {c c2 c3 c4 K : Nat} {xs ys us vs : List Nat} {z y x v : Int}
theorem rl_two {W : World} {b : Nat} (h : Zh W g A c xs z K) (h2 : Zh W g2 A2 c2 ys y K) (h3 : Zh W g3 A3 c3 us x K) (h4 : Zh W g4 A4 c4 vs v K) (hb : Blk W b 27 [.bool g, .slice A xs.length c, .bool g2, .slice A2 ys.length c2, .bool g3, .slice A3 us.length c3, .bool g4, .slice A4 vs.length c4]) :
  RLs W K (some ⟨b, 0, none⟩) [⟨g, A, c, xs, z, g2, A2, c2, ys, y⟩, ⟨g3, A3, c3, us, x, g4, A4, c4, vs, v⟩] := fun k hk => by
 match k, hk with
 | 0, _ => exact ⟨b, 0, rfl, hb.lt, hb.cell 0, hb.cell 1, hb.cell 2, hb.cell 3, h, h2⟩
 | 1, _ => exact ⟨b, 0, rfl, hb.lt, hb.cell 4, hb.cell 5, hb.cell 6, hb.cell 7, h3, h4⟩
theorem bad_two : anyBad [⟨g, A, c, xs, z, g2, A2, c2, ys, y⟩, ⟨g3, A3, c3, us, x, g4, A4, c4, vs, v⟩] ↔ y = 0 ∨ v = 0 := by
 constructor
 ·rintro ⟨k, hk, e⟩
  match k, hk with
  | 0, _ => exact Or.inl e
  | 1, _ => exact Or.inr e
 ·rintro (e | e)
  ·exact ⟨0, by simp, e⟩
  ·exact ⟨1, by simp, e⟩
end
end
section
open Go.RowKit
section
variable {w : World} {g g2 : Bool} {A A2 : Option Addr} {c c2 K : Nat} {xs ys : List Nat} {z y : Int}
theorem rmay_any (h2 : Zh w g2 A2 c2 ys y K) (hK : K ≤ 67108864) : Calls Tryz.prog 16 #[.agg #[.bool g, .slice A xs.length c, .bool g2, .slice A2 ys.length c2]] w fun e w' => e = .returned (.bool (decide (y ≠ 0))) ∧ Below w.heap.size w w' := by
 have k0 := bel_one w (.cells #[.bool g, .slice A xs.length c, .bool g2, .slice A2 ys.length c2] 27)
 have b0 : Blk (w.alloc (.cells #[.bool g, .slice A xs.length c, .bool g2, .slice A2 ys.length c2] 27)) w.heap.size 27 [.bool g, .slice A xs.length c, .bool g2, .slice A2 ys.length c2] := Blk.new_ rfl
 have SG := hi9 ((h2.next k0).rsign hK)
 have hs : (y.sign != 0) = decide (y ≠ 0) := by
  have := sign_zero9 y
  show (!(y.sign == 0)) = _
  rw [this]
  by_cases h : y = 0 <;> simp [h]
 obtain ⟨bv, hbv⟩ : ∃ b, b = decide (y ≠ 0) := ⟨_, rfl⟩
 obtain ⟨sg, hsg⟩ : ∃ s, s = y.sign := ⟨_, rfl⟩
 rw [← hsg] at SG hs
 rw [← hbv] at hs ⊢
 clear h2 hbv hsg
 obtain ⟨_, _, p2, p3, _, _, _, _⟩ := b0.four
 go_enter Tryz.func16, Tryz.ntmps16
 go_wp2_with fail
 refine SG.out.mono ?_
 rintro e w1 ⟨rfl, hb1⟩
 go_wp2_with fail
 go_ret
 exact ⟨rfl, bst k0 hb1 nl9⟩
set_option maxHeartbeats 3200000 in
theorem rnorm05_any (h : Zh w g A c xs z K) (h2 : Zh w g2 A2 c2 ys y K) (hK : K ≤ 33554431) (hy : y ≠ 0) :
  Calls Tryz.prog 18 #[.agg #[.bool g, .slice A xs.length c, .bool g2, .slice A2 ys.length c2]] w fun e w' => ROut w w' (lowN z y) (lowD z y) e := by
 have k0 := bel_two w (.cells #[.bool g, .slice A xs.length c, .bool g2, .slice A2 ys.length c2] 27) (.cells #[.bool false, .slice none 0 0, .bool false, .slice none 0 0] 27)
 have b0 : Blk ((w.alloc (.cells #[.bool g, .slice A xs.length c, .bool g2, .slice A2 ys.length c2] 27)).alloc (.cells #[.bool false, .slice none 0 0, .bool false, .slice none 0 0] 27)) w.heap.size 27 [.bool g, .slice A xs.length c, .bool g2, .slice A2 ys.length c2] := (Blk.new_ rfl).heapAlloc _
 have r0 : Blk ((w.alloc (.cells #[.bool g, .slice A xs.length c, .bool g2, .slice A2 ys.length c2] 27)).alloc (.cells #[.bool false, .slice none 0 0, .bool false, .slice none 0 0] 27)) (w.heap.size + 1) 27 [.bool false, .slice none 0 0, .bool false, .slice none 0 0] := by
  have := Blk.new_ (w := w.alloc (.cells #[.bool g, .slice A xs.length c, .bool g2, .slice A2 ys.length c2] 27)) (t := 27) (cs := #[.bool false, .slice none 0 0, .bool false, .slice none 0 0]) (vs := [.bool false, .slice none 0 0, .bool false, .slice none 0 0]) rfl
  simpa using this
 have LO := hi9 (rmake_any (h.next k0) (h2.next k0) hK hy)
 obtain ⟨n, hn⟩ : ∃ n, n = lowN z y := ⟨_, rfl⟩
 obtain ⟨d, hd⟩ : ∃ d, d = lowD z y := ⟨_, rfl⟩
 rw [← hn, ← hd] at LO ⊢
 clear hn hd h h2 hy
 go_enter Tryz.func18, Tryz.ntmps18
 go_upto_region 1 with fail
 obtain ⟨w0, hw0⟩ : ∃ v, v = (w.alloc (.cells #[.bool g, .slice A xs.length c, .bool g2, .slice A2 ys.length c2] 27)).alloc (.cells #[.bool false, .slice none 0 0, .bool false, .slice none 0 0] 27) := ⟨_, rfl⟩
 rw [← hw0] at k0 b0 r0 LO ⊢
 clear hw0
 obtain ⟨p0, p1, p2, p3, _, _, _, _⟩ := b0.four
 go_wp2_with fail
 refine LO.out.mono ?_
 rintro e w1 ⟨zs, A1, c1, ys1, A3, c3, rfl, n1, n2, q1, q2, hb2⟩
 have r2 := r0.below hb2 r0.lt
 obtain ⟨_, _, _, _, f0, f1, f2, f3⟩ := r2.four
 have s1 := k0.size
 clear LO p0 p1 p2 p3 b0 r0
 go_wp2_with fail
 exact rret (bst k0 hb2 nl9) r2 (by omega) n1 n2 (q1.mono s1) (q2.mono s1) rfl rfl rfl rfl rfl
end
end
section
open Go.RowKit
section
variable {w : World} {g g2 g3 g4 : Bool} {A A2 A3 A4 : Option Addr} {c c2 c3 c4 K : Nat} {xs ys us vs : List Nat} {z y x v : Int}
set_option maxHeartbeats 6400000 in
theorem rneg05_any (h : Zh w g A c xs z K) (h2 : Zh w g2 A2 c2 ys y K) (hK : K ≤ 33554431) (hy : y ≠ 0) :
  Calls Tryz.prog 32 #[.agg #[.bool g, .slice A xs.length c, .bool g2, .slice A2 ys.length c2]] w fun e w' => ROut w w' (lowN (-z) y) (lowD (-z) y) e := by
 have k0 := bel_two w (.cells #[.bool g, .slice A xs.length c, .bool g2, .slice A2 ys.length c2] 27) (.cells #[.bool false, .slice none 0 0, .bool false, .slice none 0 0] 27)
 have b0 : Blk ((w.alloc (.cells #[.bool g, .slice A xs.length c, .bool g2, .slice A2 ys.length c2] 27)).alloc (.cells #[.bool false, .slice none 0 0, .bool false, .slice none 0 0] 27)) w.heap.size 27 [.bool g, .slice A xs.length c, .bool g2, .slice A2 ys.length c2] := (Blk.new_ rfl).heapAlloc _
 have r0 : Blk ((w.alloc (.cells #[.bool g, .slice A xs.length c, .bool g2, .slice A2 ys.length c2] 27)).alloc (.cells #[.bool false, .slice none 0 0, .bool false, .slice none 0 0] 27)) (w.heap.size + 1) 27 [.bool false, .slice none 0 0, .bool false, .slice none 0 0] := by
  have := Blk.new_ (w := w.alloc (.cells #[.bool g, .slice A xs.length c, .bool g2, .slice A2 ys.length c2] 27)) (t := 27) (cs := #[.bool false, .slice none 0 0, .bool false, .slice none 0 0]) (vs := [.bool false, .slice none 0 0, .bool false, .slice none 0 0]) rfl
  simpa using this
 have M1 : Hid (∀ W (_ : Below w.heap.size w W), Calls Tryz.prog 86 #[.agg #[.bool g, .slice A xs.length c]] W fun e w' => ZOut W w' (-z) e) := fun W hW => (h.next hW).rneg (by omega)
 have l1 : (-z).natAbs < 4294967296 ^ K := by rw [Int.natAbs_neg]; exact h.lt
 have LO : Hid (∀ (zs : List Nat) (Aa : Option Addr) (ca B1 : Nat) (w1 W : World), Num 4294967296 zs (-z).natAbs → Res w1 B1 50 Aa ca (u32s zs) → Below w1.heap.size w1 W → Below w.heap.size w W → Calls Tryz.prog 72 #[.agg #[.bool (isNeg (-z)), .slice Aa zs.length ca], .agg #[.bool g2, .slice A2 ys.length c2]] W fun e w' => ROut W w' (lowN (-z) y) (lowD (-z) y) e) := fun zs Aa ca B1 w1 W n1 r1 h1 hW =>
  rmake_any ((Zh.of (K := K) n1 r1 l1).next h1) (h2.next hW) hK hy
 obtain ⟨p, hp⟩ : ∃ p, p = -z := ⟨_, rfl⟩
 rw [← hp] at M1 LO
 rw [← hp]
 have n1 : w.heap.size ≠ w.heap.size + 1 := by omega
 have n3 := Ne.symm n1
 clear h h2 hy l1 hp
 go_enter Tryz.func32, Tryz.ntmps32
 go_upto_region 1 with fail
 obtain ⟨w0, hw0⟩ : ∃ v, v = (w.alloc (.cells #[.bool g, .slice A xs.length c, .bool g2, .slice A2 ys.length c2] 27)).alloc (.cells #[.bool false, .slice none 0 0, .bool false, .slice none 0 0] 27) := ⟨_, rfl⟩
 rw [← hw0] at k0 b0 r0 ⊢
 clear hw0
 have H0 := hi9 b0
 clear b0
 obtain ⟨p0, p1, p2, p3, _, _, _, _⟩ := H0.out.four
 go_region_held3 (fun W => W.cell? ⟨w.heap.size, 0, none⟩ = some (.bool g) ∧ W.cell? ⟨w.heap.size, 1, none⟩ = some (.slice A xs.length c) ∧ W.cell? ⟨w.heap.size, 2, none⟩ = some (.bool g2) ∧ W.cell? ⟨w.heap.size, 3, none⟩ = some (.slice A2 ys.length c2)) (go_keep) (first
  | (go_at_call 86; (with_reducible refine (M1.out _ (bst k0 (by repeat (first | exact br9 | apply bdw | (refine bdn ?_ _))) nl9)).mono ?_); rintro e wa ⟨za, Aa, ca, rfl, hza, hra, hba⟩; have ma : Below w0.heap.size w0 wa := bst (by repeat (first | exact br9 | apply bdw | (refine bdn ?_ _))) hba nl9; obtain ⟨x0a, y0a, z0a, v0a, _, _, _, _⟩ := (H0.out.below ma H0.out.lt).four)
  | (go_at_call 72; (with_reducible refine (LO.out za Aa ca _ wa _ hza hra (by repeat (first | exact br9 | apply bdw | (refine bdn ?_ _))) (bst k0 (by repeat (first | exact br9 | exact ma | apply bdw | (refine bdn ?_ _))) nl9)).mono ?_); rintro e wc ⟨zs, A1, c1, ys1, A5, c5, rfl, k1, k2, r1, r2, hbc⟩; have mc : Below w0.heap.size w0 wc := bst (by repeat (first | exact br9 | exact ma | apply bdw | (refine bdn ?_ _))) hbc nl9; have b9 := r0.below mc r0.lt; obtain ⟨x0c, y0c, z0c, v0c, _, _, _, _⟩ := (H0.out.below mc H0.out.lt).four; obtain ⟨_, _, _, _, f0, f1, f2, f3⟩ := b9.four))
 all_goals
  go_wp2_with fail
  have s1 := k0.size
  have s2 := ma.size
  exact rret (bst k0 mc nl9) b9 (by omega) k1 k2 (r1.mono (by first | omega | (simp; omega))) (r2.mono (by first | omega | (simp; omega))) rfl rfl rfl rfl rfl
end
end
section
open Go.RowKit
set_option maxHeartbeats 800000 in
theorem zof_any (n : Int) (h1 : -9223372036854775808 ≤ n) (h2 : n ≤ 9223372036854775807) (w : World) : Calls Tryz.prog 75 #[.int .i64 n] w fun e w' => ZOut w w' n e := by
 have k0 := bel_one w (.cells #[.bool false, .slice none 0 0] 25)
 have b1 := blk_one w (.bool false) (.slice none 0 0)
 by_cases h0 : 0 ≤ n
 ·obtain ⟨k, rfl⟩ := Int.eq_ofNat_of_zero_le h0
  have N1 := hi9 (of_any k (by omega))
  clear h0
  go_enter Tryz.func75, Tryz.ntmps75
  go_wp2_with fail
  refine (N1.out _).mono ?_
  rintro e w1 ⟨zs, A', c', rfl, hz, hr, hb⟩
  have hsz := k0.size
  have k1 := bst k0 hb nl9
  replace b1 := b1.below hb b1.lt
  go_wp2_with fail
  refine (made_num false (k : Int) hz rfl _ (res_len hr)).mono ?_
  rintro e w2 ⟨rfl, hb2⟩
  replace b1 := b1.below hb2 b1.lt
  obtain ⟨q0, q1, q2, q3⟩ := b1.two
  go_wp2_with fail
  exact zretT (z := (k : Int)) (bst k1 hb2 nl9) b1 (by omega) (num_eq hz (by omega)) ((hr.mono hsz).below hb2 nl9) rfl rfl rfl rfl
 ·obtain ⟨k, rfl⟩ : ∃ k : Nat, n = -(k : Int) := ⟨(-n).toNat, by omega⟩
  have hk : 0 < k := by omega
  have hk2 : k ≤ 9223372036854775808 := by omega
  have N1 := hi9 (of_any k (by omega))
  have e1 : IntKind.u64.wrap (-IntKind.u64.wrap (-(k : Int))) = (k : Int) := by
   rw [IntKind.wrap_u64, IntKind.wrap_u64]; omega
  have E1 := hi9 e1
  clear h0 h1 h2 e1
  go_enter Tryz.func75, Tryz.ntmps75
  go_wp2_with fail
  rw [E1.out]
  refine (N1.out _).mono ?_
  rintro e w1 ⟨zs, A', c', rfl, hz, hr, hb⟩
  have hsz := k0.size
  have k1 := bst k0 hb nl9
  replace b1 := b1.below hb b1.lt
  go_wp2_with fail
  refine (made_num true (-(k : Int)) hz rfl _ (res_len hr)).mono ?_
  rintro e w2 ⟨rfl, hb2⟩
  replace b1 := b1.below hb2 b1.lt
  obtain ⟨q0, q1, q2, q3⟩ := b1.two
  go_wp2_with fail
  exact zretT (z := -(k : Int)) (bst k1 hb2 nl9) b1 (by omega) (num_eq hz (by omega)) ((hr.mono hsz).below hb2 nl9) rfl rfl rfl rfl
end
end Go.Proofs.YtbcphifjcaobfaaGreatDoor
