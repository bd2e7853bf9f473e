/- The contract of rat.Norm. The contract of rat.Norm. The contracts of the closures of rat.Mul and rat.Neg. The contract of rat.Neg. -/
import Derived.Test.YtbcphifjcaobfaaGreatDoorPkRf34
namespace Go.Proofs.YtbcphifjcaobfaaGreatDoor
section
open Go.RowKit
section
variable {w : World} {g g2 : Bool} {A A2 : Option Addr} {c c2 K gp : Nat} {xs ys : List Nat} {z y : Int}
set_option maxHeartbeats 3200000 in
theorem norm1_any (hb : Blk w gp 27 [.bool g, .slice A xs.length c, .bool g2, .slice A2 ys.length c2]) (h : Zh w g A c xs z K) (h2 : Zh w g2 A2 c2 ys y K) (hK : K ≤ 33554431) (hy : y ≠ 0) (hT : Tab64 w) (hTB : 1 < w.heap.size) :
  Calls Tryz.prog 59 #[.pointer (some ⟨gp, 0, none⟩)] w fun e w' => ROut w w' (lowN z y) (lowD z y) e := by
 have k0 := bel_one w (.cells #[.bool false, .slice none 0 0, .bool false, .slice none 0 0] 27)
 have b0 : Blk (w.alloc (.cells #[.bool false, .slice none 0 0, .bool false, .slice none 0 0] 27)) w.heap.size 27 [.bool false, .slice none 0 0, .bool false, .slice none 0 0] := Blk.new_ rfl
 have hb1 := hb.heapAlloc (.cells #[.bool false, .slice none 0 0, .bool false, .slice none 0 0] 27)
 have LO := hi9 (lowest_any (h.next k0) (h2.next k0) hK hy (hT.below k0 hTB) (Nat.lt_of_lt_of_le hTB k0.size))
 clear h h2 hT hTB hb
 obtain ⟨n, hn⟩ : ∃ n, n = lowN z y := ⟨_, rfl⟩
 obtain ⟨d, hd⟩ : ∃ d, d = lowD z y := ⟨_, rfl⟩
 rw [← hn, ← hd] at LO ⊢
 clear hn hd
 go_enter Tryz.func59, Tryz.ntmps59
 go_upto_region 1 with fail
 obtain ⟨w0, hw0⟩ : ∃ v, v = w.alloc (.cells #[.bool false, .slice none 0 0, .bool false, .slice none 0 0] 27) := ⟨_, rfl⟩
 rw [← hw0] at k0 b0 hb1 LO ⊢
 clear hw0
 obtain ⟨p0, p1, p2, p3, _, _, _, _⟩ := hb1.four
 go_wp2_with fail
 refine LO.out.mono ?_
 rintro e w1 ⟨zs, A1, c1, ys1, A3, c3, rfl, n1, n2, r1, r2, hb2⟩
 have b2 := b0.below hb2 b0.lt
 obtain ⟨_, _, _, _, f0, f1, f2, f3⟩ := b2.four
 clear LO hb1 p0 p1 p2 p3 b0
 go_wp2_with fail
 exact rret (bst k0 hb2 nl9) b2 nl9 n1 n2 (r1.mono k0.size) (r2.mono k0.size) rfl rfl rfl rfl rfl
theorem rl_one {W : World} {b : Nat} (h : Zh W g A c xs z K) (h2 : Zh W g2 A2 c2 ys y K) (hb : Blk W b 27 [.bool g, .slice A xs.length c, .bool g2, .slice A2 ys.length c2]) :
  RLs W K (some ⟨b, 0, none⟩) [⟨g, A, c, xs, z, g2, A2, c2, ys, y⟩] := fun k hk => by
 match k, hk with
 | 0, _ => exact ⟨b, 0, rfl, hb.lt, hb.cell 0, hb.cell 1, hb.cell 2, hb.cell 3, h, h2⟩
theorem bad_one : anyBad [⟨g, A, c, xs, z, g2, A2, c2, ys, y⟩] ↔ y = 0 := by
 constructor
 ·rintro ⟨k, hk, e⟩
  match k, hk with
  | 0, _ => exact e
 ·intro e
  exact ⟨0, by simp, e⟩
end
end
section
open Go.RowKit
section
variable {w : World} {g g2 : Bool} {A A2 : Option Addr} {c c2 K : Nat} {xs ys : List Nat} {z y : Int}
set_option maxHeartbeats 3200000 in
theorem ratnorm_good (h : Zh w g A c xs z K) (h2 : Zh w g2 A2 c2 ys y K) (hK : K ≤ 33554431) (hy : y ≠ 0) (hT : Tab64 w) (hTB : 1 < w.heap.size) :
  Calls Tryz.prog 12 #[.agg #[.bool g, .slice A xs.length c, .bool g2, .slice A2 ys.length c2]] w fun e w' => RAns w w' (lowN z y) (lowD z y) 0 e := by
 have k0 := bel_two w (.cells #[.bool g, .slice A xs.length c, .bool g2, .slice A2 ys.length c2] 27) (.cells #[.bool false, .slice none 0 0, .bool false, .slice none 0 0] 27)
 have b0 : Blk ((w.alloc (.cells #[.bool g, .slice A xs.length c, .bool g2, .slice A2 ys.length c2] 27)).alloc (.cells #[.bool false, .slice none 0 0, .bool false, .slice none 0 0] 27)) w.heap.size 27 [.bool g, .slice A xs.length c, .bool g2, .slice A2 ys.length c2] := (Blk.new_ rfl).heapAlloc _
 have r0 : Blk ((w.alloc (.cells #[.bool g, .slice A xs.length c, .bool g2, .slice A2 ys.length c2] 27)).alloc (.cells #[.bool false, .slice none 0 0, .bool false, .slice none 0 0] 27)) (w.heap.size + 1) 27 [.bool false, .slice none 0 0, .bool false, .slice none 0 0] := by
  have := Blk.new_ (w := w.alloc (.cells #[.bool g, .slice A xs.length c, .bool g2, .slice A2 ys.length c2] 27)) (t := 27) (cs := #[.bool false, .slice none 0 0, .bool false, .slice none 0 0]) (vs := [.bool false, .slice none 0 0, .bool false, .slice none 0 0]) rfl
  simpa using this
 obtain ⟨w0, hw0⟩ : ∃ v, v = (w.alloc (.cells #[.bool g, .slice A xs.length c, .bool g2, .slice A2 ys.length c2] 27)).alloc (.cells #[.bool false, .slice none 0 0, .bool false, .slice none 0 0] 27) := ⟨_, rfl⟩
 rw [← hw0] at k0 b0 r0
 have AN : Hid (∀ W b (_ : Below w0.heap.size w0 W) (_ : Blk W b 27 [.bool g, .slice A xs.length c, .bool g2, .slice A2 ys.length c2]), Calls Tryz.prog 58 #[.func (.func 59) #[] #[.pointer (some ⟨w.heap.size, 0, none⟩)], .slice (some ⟨b, 0, none⟩) 1 1] W fun e w' => RAns W w' (lowN z y) (lowD z y) 0 e) := fun W b hW hb => by
  have hz := h.next (bst k0 hW nl9)
  have hd := h2.next (bst k0 hW nl9)
  exact answer_norm_good (c := 1) (gp := w.heap.size) [⟨g, A, c, xs, z, g2, A2, c2, ys, y⟩] (rl_one hz hd hb) (by omega) (by simp) (fun e => hy (bad_one.1 e)) _ _ (fun V hV => norm1_any ((b0.below hW b0.lt).below hV (b0.below hW b0.lt).lt) (hz.next hV) (hd.next hV) hK hy (hT.below (bst (bst k0 hW nl9) hV nl9) hTB) (Nat.lt_of_lt_of_le hTB (bst (bst k0 hW nl9) hV nl9).size))
 obtain ⟨n, hn⟩ : ∃ n, n = lowN z y := ⟨_, rfl⟩
 obtain ⟨d, hd⟩ : ∃ d, d = lowD z y := ⟨_, rfl⟩
 rw [← hn, ← hd] at AN ⊢
 clear hn hd h h2 hy hT hTB
 have j1 := bel_one w0 (.cells #[.bool g, .slice A xs.length c, .bool g2, .slice A2 ys.length c2] 27)
 have bs : Blk (w0.alloc (.cells #[.bool g, .slice A xs.length c, .bool g2, .slice A2 ys.length c2] 27)) w0.heap.size 27 [.bool g, .slice A xs.length c, .bool g2, .slice A2 ys.length c2] := Blk.new_ rfl
 obtain ⟨p0, p1, p2, p3, _, _, _, _⟩ := b0.four
 go_enter Tryz.func12, Tryz.ntmps12
 go_upto_region 1 with fail
 rw [← hw0]
 clear hw0
 go_wp2_with fail
 refine (AN.out _ _ j1 bs).mono ?_
 rintro e w2 ⟨zs, A1, c1, ys1, A3, c3, rfl, n1, n2, q1, q2, hb2⟩
 have i2 := bst j1 hb2 nl9
 have r2 := r0.below i2 r0.lt
 obtain ⟨_, _, _, _, f0, f1, f2, f3⟩ := r2.four
 have s1 := k0.size
 have s2 := j1.size
 clear AN p0 p1 p2 p3 bs b0 r0 hb2
 go_wp2_with fail
 exact ra_ret (bst k0 i2 nl9) r2 (by omega) n1 n2 (q1.mono (by omega)) (q2.mono (by omega)) rfl rfl rfl rfl rfl rfl
set_option maxHeartbeats 3200000 in
theorem ratnorm_bad (h : Zh w g A c xs z K) (h2 : Zh w g2 A2 c2 ys y K) (hK : K ≤ 33554431) (hy : y = 0) :
  Calls Tryz.prog 12 #[.agg #[.bool g, .slice A xs.length c, .bool g2, .slice A2 ys.length c2]] w fun e w' => RAns w w' 0 0 6 e := by
 have k0 := bel_two w (.cells #[.bool g, .slice A xs.length c, .bool g2, .slice A2 ys.length c2] 27) (.cells #[.bool false, .slice none 0 0, .bool false, .slice none 0 0] 27)
 have b0 : Blk ((w.alloc (.cells #[.bool g, .slice A xs.length c, .bool g2, .slice A2 ys.length c2] 27)).alloc (.cells #[.bool false, .slice none 0 0, .bool false, .slice none 0 0] 27)) w.heap.size 27 [.bool g, .slice A xs.length c, .bool g2, .slice A2 ys.length c2] := (Blk.new_ rfl).heapAlloc _
 have r0 : Blk ((w.alloc (.cells #[.bool g, .slice A xs.length c, .bool g2, .slice A2 ys.length c2] 27)).alloc (.cells #[.bool false, .slice none 0 0, .bool false, .slice none 0 0] 27)) (w.heap.size + 1) 27 [.bool false, .slice none 0 0, .bool false, .slice none 0 0] := by
  have := Blk.new_ (w := w.alloc (.cells #[.bool g, .slice A xs.length c, .bool g2, .slice A2 ys.length c2] 27)) (t := 27) (cs := #[.bool false, .slice none 0 0, .bool false, .slice none 0 0]) (vs := [.bool false, .slice none 0 0, .bool false, .slice none 0 0]) rfl
  simpa using this
 obtain ⟨w0, hw0⟩ : ∃ v, v = (w.alloc (.cells #[.bool g, .slice A xs.length c, .bool g2, .slice A2 ys.length c2] 27)).alloc (.cells #[.bool false, .slice none 0 0, .bool false, .slice none 0 0] 27) := ⟨_, rfl⟩
 rw [← hw0] at k0 b0 r0
 have AN : Hid (∀ W b (_ : Below w0.heap.size w0 W) (_ : Blk W b 27 [.bool g, .slice A xs.length c, .bool g2, .slice A2 ys.length c2]), Calls Tryz.prog 58 #[.func (.func 59) #[] #[.pointer (some ⟨w.heap.size, 0, none⟩)], .slice (some ⟨b, 0, none⟩) 1 1] W fun e w' => RAns W w' 0 0 6 e) := fun W b hW hb => by
  have hz := h.next (bst k0 hW nl9)
  have hd := h2.next (bst k0 hW nl9)
  exact answer_norm_bad (c := 1) (gp := w.heap.size) [⟨g, A, c, xs, z, g2, A2, c2, ys, y⟩] (rl_one hz hd hb) (by omega) (by simp) (bad_one.2 hy)
 clear h h2 hy
 have j1 := bel_one w0 (.cells #[.bool g, .slice A xs.length c, .bool g2, .slice A2 ys.length c2] 27)
 have bs : Blk (w0.alloc (.cells #[.bool g, .slice A xs.length c, .bool g2, .slice A2 ys.length c2] 27)) w0.heap.size 27 [.bool g, .slice A xs.length c, .bool g2, .slice A2 ys.length c2] := Blk.new_ rfl
 obtain ⟨p0, p1, p2, p3, _, _, _, _⟩ := b0.four
 go_enter Tryz.func12, Tryz.ntmps12
 go_upto_region 1 with fail
 rw [← hw0]
 clear hw0
 go_wp2_with fail
 refine (AN.out _ _ j1 bs).mono ?_
 rintro e w2 ⟨zs, A1, c1, ys1, A3, c3, rfl, n1, n2, q1, q2, hb2⟩
 have i2 := bst j1 hb2 nl9
 have r2 := r0.below i2 r0.lt
 obtain ⟨_, _, _, _, f0, f1, f2, f3⟩ := r2.four
 have s1 := k0.size
 have s2 := j1.size
 clear AN p0 p1 p2 p3 bs b0 r0 hb2
 go_wp2_with fail
 exact ra_ret (bst k0 i2 nl9) r2 (by omega) n1 n2 (q1.mono (by omega)) (q2.mono (by omega)) rfl rfl rfl rfl rfl rfl
end
end
section
open Go.RowKit
end
section
open Go.RowKit
end
end Go.Proofs.YtbcphifjcaobfaaGreatDoor
