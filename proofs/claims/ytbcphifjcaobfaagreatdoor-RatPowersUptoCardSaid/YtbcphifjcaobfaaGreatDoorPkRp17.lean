/- The contracts of zint's Sign, Cmp, Of and of what a division. Limbs lie apart from variables that hold integers: their blo. The numbers behind the greatest common divisor. The contracts of timesPlus and mix. -/
import Derived.Test.YtbcphifjcaobfaaGreatDoorPkRp16
import Derived.Test.YtbcphifjcaobfaaGreatDoorPkRp1
import Derived.Test.YtbcphifjcaobfaaGreatDoorPkRp13
import Derived.Shelf.Spec.TrailingZeros
import Derived.Deep.LoopGhost
namespace Go.Proofs.YtbcphifjcaobfaaGreatDoor
section
open Go.RowKit
theorem sg_neg {g : Bool} {z : Int} (h : ivalN g z.natAbs = z) (h0 : z ≠ 0) : g = isNeg z := by
 have h1 := isNeg_ival g z.natAbs
 rw [h] at h1
 have : decide (0 < z.natAbs) = true := decide_eq_true (by omega)
 rw [this, Bool.and_true] at h1
 exact h1.symm
section
variable {w w' : World} {g g2 : Bool} {A A2 : Option Addr} {c c2 K J : Nat} {xs ys : List Nat} {z y : Int}
set_option maxHeartbeats 1600000 in
theorem Zh.sign (h : Zh w g A c xs z K) (hK : K ≤ 67108864) : Calls Tryz.prog 63 #[.agg #[.bool g, .slice A xs.length c]] w fun e w' => e = .returned (.int .i64 z.sign) ∧ Below w.heap.size w w' := by
 have Z1 : Hid (∀ W (_ : Below w.heap.size w W), Calls Tryz.prog 103 #[.agg #[.bool g, .slice A xs.length c]] W fun e w' => e = .returned (.bool (decide (z = 0))) ∧ Below W.heap.size W w') := fun W hW => (h.next hW).isZero hK
 have hs := h.sg
 clear h
 by_cases h0 : z = 0
 ·rw [decide_eq_true h0] at Z1
  rw [h0, show Int.sign 0 = 0 from rfl]
  clear hs h0
  go_enter Tryz.func63, Tryz.ntmps63
  go_wp2_with fail
  refine (Z1.out _ (bel_one _ _)).mono ?_
  rintro e w1 ⟨rfl, hb⟩
  go_wp2_with fail
  go_ret
  exact ⟨rfl, bst (bel_one _ _) hb nl9⟩
 ·have hg := sg_neg hs h0
  rw [decide_eq_false h0] at Z1
  cases g
  ·have e1 : z.sign = 1 := Int.sign_eq_one_of_pos (by simp [isNeg] at hg; omega)
   rw [e1]
   clear hs h0 hg e1
   go_enter Tryz.func63, Tryz.ntmps63
   go_wp2_with fail
   refine (Z1.out _ (bel_one _ _)).mono ?_
   rintro e w1 ⟨rfl, hb⟩
   obtain ⟨q0, q1, q2, q3⟩ := ((Blk.new_ (w := w) (t := 25) (cs := #[.bool false, .slice A xs.length c]) (vs := [.bool false, .slice A xs.length c]) rfl).below hb (by simp)).two
   go_wp2_with fail
   go_ret
   exact ⟨rfl, bst (bel_one _ _) hb nl9⟩
  ·have e1 : z.sign = -1 := Int.sign_eq_neg_one_of_neg (by simp [isNeg] at hg; omega)
   rw [e1]
   clear hs h0 hg e1
   go_enter Tryz.func63, Tryz.ntmps63
   go_wp2_with fail
   refine (Z1.out _ (bel_one _ _)).mono ?_
   rintro e w1 ⟨rfl, hb⟩
   obtain ⟨q0, q1, q2, q3⟩ := ((Blk.new_ (w := w) (t := 25) (cs := #[.bool true, .slice A xs.length c]) (vs := [.bool true, .slice A xs.length c]) rfl).below hb (by simp)).two
   go_wp2_with fail
   go_ret
   exact ⟨rfl, bst (bel_one _ _) hb nl9⟩
theorem sign_cases (z : Int) : (z = 0 ∧ z.sign = 0) ∨ (z < 0 ∧ z.sign = -1) ∨ (0 < z ∧ z.sign = 1) := by
 rcases Int.lt_trichotomy z 0 with h | h | h
 ·exact Or.inr (Or.inl ⟨h, Int.sign_eq_neg_one_of_neg h⟩)
 ·exact Or.inl ⟨h, by rw [h]; rfl⟩
 ·exact Or.inr (Or.inr ⟨h, Int.sign_eq_one_of_pos h⟩)
end
def PairOut (B : Nat) (w w' : World) (gr : Bool) (q r : Nat) (e : Ending) : Prop := ∃ qs rs A1 c1 A3 c3, e = .returned (.tuple #[.slice A1 qs.length c1, .agg #[.bool (gr && decide (0 < r)), .slice A3 rs.length c3]]) ∧ Num 4294967296 qs q ∧ Num 4294967296 rs r ∧ Res w' B 50 A1 c1 (u32s qs) ∧ Res w' B 50 A3 c3 (u32s rs) ∧ Below w.heap.size w w'
section
variable {w : World} {B : Nat} {A1 A3 A5 : Option Addr} {c1 c3 c5 q r b K : Nat} {qs rs bs : List Nat}
set_option maxHeartbeats 1600000 in
theorem whole_any (hq : Num 4294967296 qs q) (hr : Num 4294967296 rs r) (hresq : Res w B 50 A1 c1 (u32s qs)) (hresr : Res w B 50 A3 c3 (u32s rs)) (n5 : Nat) :
  Calls Tryz.prog 137 #[.agg #[.slice A1 qs.length c1, .slice A3 rs.length c3, .slice A5 n5 c5]] w fun e w' => PairOut B w w' false q r e := by
 have M1 : Hid (∀ W, Calls Tryz.prog 105 #[.bool false, .slice A3 rs.length c3] W fun e w' => e = .returned (.agg #[.bool (false && decide (0 < r)), .slice A3 rs.length c3]) ∧ Below W.heap.size W w') := fun W => by
  have h := made_any false A3 rs.length c3 W (res_len hresr)
  rwa [num_pos hr] at h
 have hl3 : w.heap.size < w.heap.size + 1 + 1 := by omega
 have hn1 : w.heap.size + 1 ≠ w.heap.size := by omega
 have hn2 : w.heap.size ≠ w.heap.size + 1 := by omega
 obtain ⟨v, hv⟩ : ∃ v, v = (false && decide (0 < r)) := ⟨_, rfl⟩
 rw [← hv] at M1
 have Hv := hi9 hv
 have Hq := hi9 hq
 have Hr := hi9 hr
 have Hresq := hi9 hresq
 have Hresr := hi9 hresr
 clear hv hq hr hresq hresr
 go_enter Tryz.func137, Tryz.ntmps137
 go_wp2_with fail
 go_region_held3 (fun W => W.cell? ⟨w.heap.size, 0, none⟩ = some (.slice A1 qs.length c1) ∧ W.cell? ⟨w.heap.size, 1, none⟩ = some (.slice A3 rs.length c3)) (go_keep) (first
  | (go_at_call 105; (with_reducible refine (M1.out _).mono ?_); rintro e w1 ⟨rfl, hb⟩; obtain ⟨hc, hf⟩ := bcell hb; have q2 : w.heap.size + 1 < w1.heap.size := Nat.lt_of_lt_of_le (Nat.lt_succ_self _) (show w.heap.size + 1 + 1 ≤ w1.heap.size by simpa using hb.size); have q1 : w.heap.size < w1.heap.size := Nat.lt_of_succ_lt q2))
 all_goals
  have k1 : Below w.heap.size w w1 := bst (by first | exact bel_two _ _ _ | exact (bel_two _ _ _).trans (((Dr.refl _).step _).below _)) hb nl9
  have hB : Blk w1 (w.heap.size + 1) 25 [.bool false, .slice none 0 0] := by first | exact (blk_res1 w _ _ _).below hb (by simp) | exact ((blk_res1 w _ _ _).drewN _).below hb (by simp) | exact (blk_res1 w _ _ _).drew.below hb (by simp)
  have hB2 := blk_pair hB (.bool v) (.slice A3 rs.length c3)
  go_wp2_with fail
  have k3 := bsc (i := 1) (bsc (g := w.heap.size + 1) (i := 0) k1 (by omega) (.bool v)) (by omega : w.heap.size ≤ w.heap.size + 1) (.slice A3 rs.length c3)
  exact bodyPost_ret (results_sz rfl rfl hB2) rfl ⟨qs, rs, A1, c1, A3, c3, by rw [← Hv.out]; rfl, Hq.out, Hr.out, Hresq.out.below k3 nl9, Hresr.out.below k3 nl9, k3⟩
set_option maxHeartbeats 1600000 in
theorem mirrored_any (hq : Num 4294967296 qs q) (hr : Num 4294967296 rs r) (hresq : Res w B 50 A1 c1 (u32s qs)) (hresr : Res w B 50 A3 c3 (u32s rs)) (n5 : Nat) :
  Calls Tryz.prog 138 #[.agg #[.slice A1 qs.length c1, .slice A3 rs.length c3, .slice A5 n5 c5]] w fun e w' => PairOut B w w' true q r e := by
 have M1 : Hid (∀ W, Calls Tryz.prog 105 #[.bool true, .slice A3 rs.length c3] W fun e w' => e = .returned (.agg #[.bool (true && decide (0 < r)), .slice A3 rs.length c3]) ∧ Below W.heap.size W w') := fun W => by
  have h := made_any true A3 rs.length c3 W (res_len hresr)
  rwa [num_pos hr] at h
 have hl3 : w.heap.size < w.heap.size + 1 + 1 := by omega
 have hn1 : w.heap.size + 1 ≠ w.heap.size := by omega
 have hn2 : w.heap.size ≠ w.heap.size + 1 := by omega
 obtain ⟨v, hv⟩ : ∃ v, v = (true && decide (0 < r)) := ⟨_, rfl⟩
 rw [← hv] at M1
 have Hv := hi9 hv
 have Hq := hi9 hq
 have Hr := hi9 hr
 have Hresq := hi9 hresq
 have Hresr := hi9 hresr
 clear hv hq hr hresq hresr
 go_enter Tryz.func138, Tryz.ntmps138
 go_wp2_with fail
 go_region_held3 (fun W => W.cell? ⟨w.heap.size, 0, none⟩ = some (.slice A1 qs.length c1) ∧ W.cell? ⟨w.heap.size, 1, none⟩ = some (.slice A3 rs.length c3)) (go_keep) (first
  | (go_at_call 105; (with_reducible refine (M1.out _).mono ?_); rintro e w1 ⟨rfl, hb⟩; obtain ⟨hc, hf⟩ := bcell hb; have q2 : w.heap.size + 1 < w1.heap.size := Nat.lt_of_lt_of_le (Nat.lt_succ_self _) (show w.heap.size + 1 + 1 ≤ w1.heap.size by simpa using hb.size); have q1 : w.heap.size < w1.heap.size := Nat.lt_of_succ_lt q2))
 all_goals
  have k1 : Below w.heap.size w w1 := bst (by first | exact bel_two _ _ _ | exact (bel_two _ _ _).trans (((Dr.refl _).step _).below _)) hb nl9
  have hB : Blk w1 (w.heap.size + 1) 25 [.bool false, .slice none 0 0] := by first | exact (blk_res1 w _ _ _).below hb (by simp) | exact ((blk_res1 w _ _ _).drewN _).below hb (by simp) | exact (blk_res1 w _ _ _).drew.below hb (by simp)
  have hB2 := blk_pair hB (.bool v) (.slice A3 rs.length c3)
  go_wp2_with fail
  have k3 := bsc (i := 1) (bsc (g := w.heap.size + 1) (i := 0) k1 (by omega) (.bool v)) (by omega : w.heap.size ≤ w.heap.size + 1) (.slice A3 rs.length c3)
  exact bodyPost_ret (results_sz rfl rfl hB2) rfl ⟨qs, rs, A1, c1, A3, c3, by rw [← Hv.out]; rfl, Hq.out, Hr.out, Hresq.out.below k3 nl9, Hresr.out.below k3 nl9, k3⟩
end
end
section
open Go.RowKit
theorem type_ne : 50 ≠ 25 := by decide
theorem res_var {W : World} {B g i : Nat} {A : Option Addr} {c : Nat} {vs L : List Value} (h : Res W B 50 A c vs) (hB : Blk W g 25 L) (u : Value) : Res (W.setCell ⟨g, i, none⟩ u) B 50 A c vs :=
 ⟨h.1, h.2.1, fun hn => by
  obtain ⟨b, rest, e, hb, hk, hc⟩ := h.2.2 hn
  refine ⟨b, rest, e, hb, hk.far (p := ⟨g, i, none⟩) ?_ _, hc⟩
  rintro rfl
  unfold Blk at hk hB
  rw [hk] at hB
  have hB2 := Option.some.inj hB
  injection hB2 with _ e2 _
  exact type_ne e2⟩
theorem res_var2 {W : World} {B g : Nat} {A : Option Addr} {c : Nat} {vs : List Value} {x y : Value} (h : Res W B 50 A c vs) (hB : Blk W g 25 [x, y]) (u v : Value) : Res ((W.setCell ⟨g, 0, none⟩ u).setCell ⟨g, 1, none⟩ v) B 50 A c vs :=
 res_var (res_var h hB u) (hB.set_ 0 u) v
theorem bel_four (w : World) (o o2 o3 o4 : Obj) : Below w.heap.size w ((((w.alloc o).alloc o2).alloc o3).alloc o4) := bal (bel_three w o o2 o3) nl9 o4
theorem blk_four (w : World) (x0 y0 x1 y1 x2 y2 x3 y3 : Value) :
  Blk ((((w.alloc (.cells #[x0, y0] 25)).alloc (.cells #[x1, y1] 25)).alloc (.cells #[x2, y2] 25)).alloc (.cells #[x3, y3] 25)) w.heap.size 25 [x0, y0] ∧
  Blk ((((w.alloc (.cells #[x0, y0] 25)).alloc (.cells #[x1, y1] 25)).alloc (.cells #[x2, y2] 25)).alloc (.cells #[x3, y3] 25)) (w.heap.size + 1) 25 [x1, y1] ∧
  Blk ((((w.alloc (.cells #[x0, y0] 25)).alloc (.cells #[x1, y1] 25)).alloc (.cells #[x2, y2] 25)).alloc (.cells #[x3, y3] 25)) (w.heap.size + 2) 25 [x2, y2] ∧
  Blk ((((w.alloc (.cells #[x0, y0] 25)).alloc (.cells #[x1, y1] 25)).alloc (.cells #[x2, y2] 25)).alloc (.cells #[x3, y3] 25)) (w.heap.size + 3) 25 [x3, y3] := by
 refine ⟨((((Blk.new_ (cs := #[x0, y0]) (vs := [x0, y0]) rfl).heapAlloc _).heapAlloc _).heapAlloc _), ((blk_res1 w _ x1 y1).heapAlloc _).heapAlloc _, (blk_res2 w _ _ x2 y2).heapAlloc _, ?_⟩
 have h := Blk.new_ (w := ((w.alloc (.cells #[x0, y0] 25)).alloc (.cells #[x1, y1] 25)).alloc (.cells #[x2, y2] 25)) (t := 25) (cs := #[x3, y3]) (vs := [x3, y3]) rfl
 simpa using h
theorem blk_three (w : World) (x0 y0 x1 y1 x2 y2 : Value) :
  Blk (((w.alloc (.cells #[x0, y0] 25)).alloc (.cells #[x1, y1] 25)).alloc (.cells #[x2, y2] 25)) w.heap.size 25 [x0, y0] ∧
  Blk (((w.alloc (.cells #[x0, y0] 25)).alloc (.cells #[x1, y1] 25)).alloc (.cells #[x2, y2] 25)) (w.heap.size + 1) 25 [x1, y1] ∧
  Blk (((w.alloc (.cells #[x0, y0] 25)).alloc (.cells #[x1, y1] 25)).alloc (.cells #[x2, y2] 25)) (w.heap.size + 2) 25 [x2, y2] :=
 ⟨(((Blk.new_ (cs := #[x0, y0]) (vs := [x0, y0]) rfl).heapAlloc _).heapAlloc _), (blk_res1 w _ x1 y1).heapAlloc _, blk_res2 w _ _ x2 y2⟩
theorem blk_pair2 (w : World) (x0 y0 x1 y1 : Value) :
  Blk ((w.alloc (.cells #[x0, y0] 25)).alloc (.cells #[x1, y1] 25)) w.heap.size 25 [x0, y0] ∧
  Blk ((w.alloc (.cells #[x0, y0] 25)).alloc (.cells #[x1, y1] 25)) (w.heap.size + 1) 25 [x1, y1] :=
 ⟨(Blk.new_ (cs := #[x0, y0]) (vs := [x0, y0]) rfl).heapAlloc _, blk_res1 w _ x1 y1⟩
theorem blk_one (w : World) (x0 y0 : Value) : Blk (w.alloc (.cells #[x0, y0] 25)) w.heap.size 25 [x0, y0] := Blk.new_ (cs := #[x0, y0]) (vs := [x0, y0]) rfl
theorem zretT {fn : Func} {a : Act} {w W : World} {p : Tmp} {r : Nat} {b : Bool} {x y : Value} {z : Int} {zs : List Nat} {A : Option Addr} {c : Nat} (hbel : Below w.heap.size w W) (hB : Blk W r 25 [x, y]) (hr : w.heap.size ≤ r)
  (hz : Num 4294967296 zs z.natAbs) (hres : Res W w.heap.size 50 A c (u32s zs)) (hb : b = isNeg z) (hres0 : fn.results = #[.cell p 25]) (hp : a.tmps.getD p undef = .pointer (some ⟨r, 0, none⟩)) (hd : a.defers = []) :
  bodyPost Tryz.prog fn (fun e w' => ZOut w w' z e) .ret a ((W.setCell ⟨r, 0, none⟩ (.bool b)).setCell ⟨r, 1, none⟩ (.slice A zs.length c)) := by
 subst hb
 exact bodyPost_ret (results_cell_row hres0 _ _ r 25 _ (0, 0) _ hp (blk_pair hB _ _) Tryz.underlying25 rfl (by kernel_rfl)) hd
  ⟨zs, A, c, rfl, hz, res_var2 hres hB _ _, bsc (bsc hbel hr _) hr _⟩
def Vr (B : Nat) (w : World) (g : Nat) (z : Int) (K : Nat) : Prop :=
 ∃ A c zs, Blk w g 25 [.bool (isNeg z), .slice A zs.length c] ∧ Num 4294967296 zs z.natAbs ∧ Res w B 50 A c (u32s zs) ∧ zs.length ≤ K
theorem Vr.next {B g K : Nat} {w w' : World} {z : Int} (v : Vr B w g z K) (hb : Below w.heap.size w w') : Vr B w' g z K := by
 obtain ⟨A, c, zs, hk, hz, hr, hl⟩ := v
 exact ⟨A, c, zs, hk.below hb hk.lt, hz, hr.below hb nl9, hl⟩
theorem Vr.lt {B g K : Nat} {w : World} {z : Int} (v : Vr B w g z K) : g < w.heap.size := by
 obtain ⟨A, c, zs, hk, _⟩ := v
 exact hk.lt
theorem Vr.other {B g h K : Nat} {w : World} {z : Int} {x y : Value} (v : Vr B w g z K) (hh : Blk w h 25 [x, y]) (hne : g ≠ h) (x' y' : Value) : Vr B ((w.setCell ⟨h, 0, none⟩ x').setCell ⟨h, 1, none⟩ y') g z K := by
 obtain ⟨A, c, zs, hk, hz, hr, hl⟩ := v
 exact ⟨A, c, zs, (hk.far (p := ⟨h, 0, none⟩) hne _).far (p := ⟨h, 1, none⟩) hne _, hz, res_var2 hr hh _ _, hl⟩
theorem Vr.put {B g K : Nat} {w : World} {z : Int} {x y : Value} {A : Option Addr} {c : Nat} {zs : List Nat} (hk : Blk w g 25 [x, y]) (hz : Num 4294967296 zs z.natAbs) (hr : Res w B 50 A c (u32s zs)) (hl : zs.length ≤ K) :
  Vr B ((w.setCell ⟨g, 0, none⟩ (.bool (isNeg z))).setCell ⟨g, 1, none⟩ (.slice A zs.length c)) g z K := ⟨A, c, zs, blk_pair hk _ _, hz, res_var2 hr hk _ _, hl⟩
end
section
open Go.RowKit
theorem odd_coprime {a : Nat} (ha : a % 2 = 1) (k : Nat) : Nat.Coprime (2 ^ k) a := by
 refine Nat.Coprime.pow_left k ?_
 show Nat.gcd 2 a = 1
 rw [Nat.gcd_rec, ha]; rfl
theorem odd_gcd {a : Nat} (ha : a % 2 = 1) (k b : Nat) : Nat.gcd a (2 ^ k * b) = Nat.gcd a b := Nat.Coprime.gcd_mul_left_cancel_right b (odd_coprime ha k)
theorem gcd_even (k a b : Nat) : Nat.gcd (2 ^ k * a) (2 ^ k * b) = 2 ^ k * Nat.gcd a b := Nat.gcd_mul_left _ _ _
theorem ctz_spec {x : Nat} (h0 : x ≠ 0) (h : x < 18446744073709551616) : Lib.ctz 64 x < 64 ∧ x / 2 ^ Lib.ctz 64 x % 2 = 1 ∧ x = 2 ^ Lib.ctz 64 x * (x / 2 ^ Lib.ctz 64 x) := by
 obtain ⟨m, hm, hk⟩ := Lib.ctzFrom_spec 64 x (by omega) h
 have e0 : Lib.ctz 64 x = Lib.ctzFrom 64 x := by unfold Lib.ctz; rw [if_neg h0]
 rw [e0]
 obtain ⟨k, hke⟩ : ∃ k, k = Lib.ctzFrom 64 x := ⟨_, rfl⟩
 rw [← hke] at hm hk ⊢
 have e1 : x / 2 ^ k = 2 * m + 1 := by rw [hm]; exact Nat.mul_div_cancel_left _ (Nat.two_pow_pos k)
 rw [e1]
 exact ⟨hk, by omega, hm⟩
theorem or_split {a b t : Nat} (h : (a ||| b) % 2 ^ t = 0) : a % 2 ^ t = 0 ∧ b % 2 ^ t = 0 := by
 have h1 : ∀ j, j < t → (a ||| b).testBit j = false := fun j hj => by
  have h2 := congrArg (fun z => Nat.testBit z j) h
  simp only [Nat.testBit_mod_two_pow, Nat.zero_testBit, hj, decide_true, Bool.true_and] at h2
  exact h2
 constructor
 ·refine Nat.eq_of_testBit_eq fun j => ?_
  rw [Nat.testBit_mod_two_pow, Nat.zero_testBit]
  by_cases hj : j < t
  ·have := h1 j hj
   rw [Nat.testBit_or, Bool.or_eq_false_iff] at this
   rw [this.1, Bool.and_false]
  ·simp [hj]
 ·refine Nat.eq_of_testBit_eq fun j => ?_
  rw [Nat.testBit_mod_two_pow, Nat.zero_testBit]
  by_cases hj : j < t
  ·have := h1 j hj
   rw [Nat.testBit_or, Bool.or_eq_false_iff] at this
   rw [this.2, Bool.and_false]
  ·simp [hj]
theorem gcd_start {a b : Nat} (ha : a ≠ 0) (hab : a < 18446744073709551616) (_ : b ≠ 0) (hbb : b < 18446744073709551616) : Nat.gcd a b = Nat.gcd (a / 2 ^ Lib.ctz 64 a) b * 2 ^ Lib.ctz 64 (a ||| b) := by
 have hor : a ||| b < 18446744073709551616 := Nat.or_lt_two_pow (n := 64) hab hbb
 have hor0 : a ||| b ≠ 0 := fun e => ha (Nat.or_eq_zero_iff.1 e).1
 obtain ⟨_, c2, c3⟩ := ctz_spec hor0 hor
 obtain ⟨_, d2, d3⟩ := ctz_spec ha hab
 obtain ⟨t, ht⟩ : ∃ t, t = Lib.ctz 64 (a ||| b) := ⟨_, rfl⟩
 rw [← ht] at c2 c3 ⊢
 obtain ⟨j, hj⟩ : ∃ j, j = Lib.ctz 64 a := ⟨_, rfl⟩
 rw [← hj] at d2 d3 ⊢
 obtain ⟨a1, ha1⟩ : ∃ a1, a1 = a / 2 ^ j := ⟨_, rfl⟩
 rw [← ha1] at d2 d3 ⊢
 have hp := Nat.two_pow_pos t
 obtain ⟨e1, e2⟩ := or_split (a := a) (b := b) (t := t) (by rw [c3]; exact Nat.mul_mod_right _ _)
 obtain ⟨a', ha'⟩ : ∃ a', a = 2 ^ t * a' := ⟨a / 2 ^ t, by rw [Nat.mul_div_cancel' (Nat.dvd_of_mod_eq_zero e1)]⟩
 obtain ⟨b', hb'⟩ : ∃ b', b = 2 ^ t * b' := ⟨b / 2 ^ t, by rw [Nat.mul_div_cancel' (Nat.dvd_of_mod_eq_zero e2)]⟩
 have hodd : a' % 2 = 1 ∨ b' % 2 = 1 := by
  rw [Nat.or_div_two_pow, ha', hb', Nat.mul_div_cancel_left _ hp, Nat.mul_div_cancel_left _ hp] at c2
  have h9 := Nat.or_mod_two_eq_one.1 c2
  exact h9
 have hg : Nat.gcd a b = 2 ^ t * Nat.gcd a' b' := by rw [ha', hb', gcd_even]
 have hg2 : Nat.gcd a1 b = Nat.gcd a1 b' := by rw [hb', odd_gcd d2]
 rw [hg, hg2, Nat.mul_comm]
 congr 1
 have htj : t ≤ j := by
  rcases Nat.lt_or_ge j t with hlt | hge
  ·exfalso
   obtain ⟨i, rfl⟩ : ∃ i, t = j + 1 + i := ⟨t - j - 1, by omega⟩
   have h9 : a1 = 2 * (2 ^ i * a') := by
    have h8 : 2 ^ j * a1 = 2 ^ j * (2 * (2 ^ i * a')) := by
     rw [← d3, ha', Nat.pow_add, Nat.pow_succ, Nat.mul_assoc, Nat.mul_assoc]
    exact Nat.eq_of_mul_eq_mul_left (Nat.two_pow_pos j) h8
   omega
  ·exact hge
 obtain ⟨i, rfl⟩ : ∃ i, j = t + i := ⟨j - t, by omega⟩
 have ha2 : a' = 2 ^ i * a1 := by
  have h8 : 2 ^ t * a' = 2 ^ t * (2 ^ i * a1) := by rw [← ha', ← Nat.mul_assoc, ← Nat.pow_add]; exact d3
  exact Nat.eq_of_mul_eq_mul_left hp h8
 rcases hodd with ho | ho
 ·have hi : i = 0 := by
   rcases Nat.eq_zero_or_pos i with h0 | h0
   ·exact h0
   ·exfalso
    obtain ⟨k, rfl⟩ : ∃ k, i = k + 1 := ⟨i - 1, by omega⟩
    rw [Nat.pow_succ, Nat.mul_comm (2 ^ k), Nat.mul_assoc] at ha2
    omega
  rw [ha2, hi, Nat.pow_zero, Nat.one_mul]
 ·rw [ha2, Nat.gcd_comm, odd_gcd ho, Nat.gcd_comm]
structure Leh (e : Bool) (x0 y0 x y u1 u2 v1 v2 : Nat) : Prop where
 le : y ≤ x
 comb : x0 = v2 * x + v1 * y
 uv : u2 ≤ v2
 sum : u1 + u2 ≤ v1 + v2
 v2p : 1 ≤ v2
 idx : if e then x + u1 * x0 = v1 * y0 else x + v1 * y0 = u1 * x0
 idy : if e then y + v2 * y0 = u2 * x0 else y + u2 * x0 = v2 * y0
 det : if e then u2 * v1 = u1 * v2 + 1 else u1 * v2 = u2 * v1 + 1
theorem Leh.start {x0 y0 : Nat} (h : y0 ≤ x0) : Leh false x0 y0 x0 y0 1 0 0 1 :=
 ⟨h, by omega, by omega, by omega, by omega, by simp, by simp, by simp⟩
theorem Leh.next {e : Bool} {x0 y0 x y u1 u2 v1 v2 : Nat} (h : Leh e x0 y0 x y u1 u2 v1 v2) (g1 : v2 ≤ y) : Leh (!e) x0 y0 y (x % y) u2 (u1 + x / y * u2) v2 (v1 + x / y * v2) := by
 have hy : 0 < y := Nat.lt_of_lt_of_le h.v2p g1
 have hq : 1 ≤ x / y := (Nat.le_div_iff_mul_le hy).2 (by rw [Nat.one_mul]; exact h.le)
 have hm := Nat.div_add_mod x y
 obtain ⟨le, comb, uv, sum, v2p, idx, idy, det⟩ := h
 generalize x / y = q at *
 obtain ⟨r, hr⟩ : ∃ r, r = x % y := ⟨_, rfl⟩
 have hrl : r < y := by rw [hr]; exact Nat.mod_lt _ hy
 rw [← hr] at hm ⊢
 clear hr
 obtain ⟨p, rfl⟩ : ∃ p, q = p + 1 := ⟨q - 1, by omega⟩
 have hpuv : p * u2 ≤ p * v2 := Nat.mul_le_mul_left _ uv
 refine ⟨Nat.le_of_lt hrl, ?_, ?_, ?_, ?_, ?_, ?_, ?_⟩
 ·subst hm; grind
 ·rw [Nat.add_mul, Nat.add_mul]; omega
 ·rw [Nat.add_mul, Nat.add_mul]; omega
 ·rw [Nat.add_mul]; omega
 ·cases e <;> simp only [Bool.not_true, Bool.not_false, if_true, Bool.false_eq_true, if_false] at idy ⊢ <;> exact idy
 ·subst hm
  cases e <;> simp only [Bool.not_true, Bool.not_false, if_true, Bool.false_eq_true, if_false] at idx idy ⊢ <;> grind
 ·cases e <;> simp only [Bool.not_true, Bool.not_false, if_true, Bool.false_eq_true, if_false] at det ⊢ <;> grind
theorem Leh.fits {e : Bool} {x0 y0 x y u1 u2 v1 v2 : Nat} (h : Leh e x0 y0 x y u1 u2 v1 v2) (g1 : v2 ≤ y) : v1 + v2 ≤ x0 ∧ v1 + x / y * v2 ≤ x0 ∧ u1 + x / y * u2 ≤ x0 := by
 have hn := h.next g1
 have hy : 1 ≤ y := Nat.le_trans h.v2p g1
 have hx : 1 ≤ x := Nat.le_trans hy h.le
 have c1 := h.comb
 have c2 := hn.comb
 have m1 := Nat.mul_le_mul_left v2 hx
 have m2 := Nat.mul_le_mul_left v1 hy
 have m3 := Nat.mul_le_mul_left (v1 + x / y * v2) hy
 have uv := hn.uv
 generalize (v1 + x / y * v2) = z at *
 omega
theorem low_ge {s t y x0 y0 D ra rb X Y : Nat} (h : y + s * x0 = t * y0) (hs : s ≤ y) (hX : X = x0 * D + ra) (hY : Y = y0 * D + rb) (ha : ra < D) : s * X ≤ t * Y := by
 have h1 : s * ra ≤ y * D := Nat.mul_le_mul hs (Nat.le_of_lt ha)
 have h2 : (y + s * x0) * D = t * y0 * D := by rw [h]
 subst hX hY
 rw [Nat.add_mul] at h2
 rw [Nat.mul_add, Nat.mul_add, ← Nat.mul_assoc, ← Nat.mul_assoc]
 omega
theorem uni_gcd {A B p q r s : Nat} (det : p * s = r * q + 1) (h1 : q * B ≤ p * A) (h2 : r * A ≤ s * B) : Nat.gcd (p * A - q * B) (s * B - r * A) = Nat.gcd A B ∧ A = s * (p * A - q * B) + q * (s * B - r * A) := by
 obtain ⟨a, ha⟩ : ∃ a, p * A = a + q * B := ⟨p * A - q * B, by omega⟩
 obtain ⟨b, hb⟩ : ∃ b, s * B = b + r * A := ⟨s * B - r * A, by omega⟩
 have ea : p * A - q * B = a := by omega
 have eb : s * B - r * A = b := by omega
 rw [ea, eb]
 have eA : A = s * a + q * b := by
  have e1 : s * (p * A) = s * (a + q * B) := by rw [ha]
  have e2 : q * (s * B) = q * (b + r * A) := by rw [hb]
  have e3 : p * s * A = (r * q + 1) * A := by rw [det]
  grind
 have eB : B = r * a + p * b := by
  have e1 : r * (p * A) = r * (a + q * B) := by rw [ha]
  have e2 : p * (s * B) = p * (b + r * A) := by rw [hb]
  have e3 : p * s * B = (r * q + 1) * B := by rw [det]
  grind
 refine ⟨?_, eA⟩
 refine Nat.dvd_antisymm ?_ ?_
 ·refine Nat.dvd_gcd ?_ ?_
  ·rw [eA]; exact Nat.dvd_add (Nat.dvd_mul_left_of_dvd (Nat.gcd_dvd_left _ _) _) (Nat.dvd_mul_left_of_dvd (Nat.gcd_dvd_right _ _) _)
  ·rw [eB]; exact Nat.dvd_add (Nat.dvd_mul_left_of_dvd (Nat.gcd_dvd_left _ _) _) (Nat.dvd_mul_left_of_dvd (Nat.gcd_dvd_right _ _) _)
 ·refine Nat.dvd_gcd ?_ ?_
  ·rw [← ea]; exact Nat.dvd_sub (Nat.dvd_mul_left_of_dvd (Nat.gcd_dvd_left _ _) _) (Nat.dvd_mul_left_of_dvd (Nat.gcd_dvd_right _ _) _)
  ·rw [← eb]; exact Nat.dvd_sub (Nat.dvd_mul_left_of_dvd (Nat.gcd_dvd_right _ _) _) (Nat.dvd_mul_left_of_dvd (Nat.gcd_dvd_left _ _) _)
structure Mixed (A B k l m n : Nat) : Prop where
 h1 : l * B ≤ k * A
 h2 : n * A ≤ m * B
 le : m * B - n * A ≤ k * A - l * B
 gcd : Nat.gcd (k * A - l * B) (m * B - n * A) = Nat.gcd A B
 less : 1 ≤ l → 1 ≤ m → k * A - l * B + (m * B - n * A) ≤ A
theorem Leh.mixed {x0 y0 x y u1 u2 v1 v2 D ra rb A B : Nat} (h : Leh false x0 y0 x y u1 u2 v1 v2) (g1 : v2 ≤ y) (g2 : y + v1 + v2 ≤ x) (hA : A = x0 * D + ra) (hB : B = y0 * D + rb) (ha : ra < D) (hb : rb < D) : Mixed A B u1 v1 v2 u2 := by
 have ix : x + v1 * y0 = u1 * x0 := by simpa using h.idx
 have iy : y + u2 * x0 = v2 * y0 := by simpa using h.idy
 have dt : u1 * v2 = u2 * v1 + 1 := by simpa using h.det
 have k1 := low_ge iy (Nat.le_trans h.uv g1) hA hB ha
 have k2 : (v1 + v2) * B ≤ (u1 + u2) * A := low_ge (y := x - y) (by rw [Nat.add_mul, Nat.add_mul]; omega) (by omega) hB hA hb
 rw [Nat.add_mul, Nat.add_mul] at k2
 have k3 : v1 * B ≤ u1 * A := by omega
 obtain ⟨j1, j2⟩ := uni_gcd dt k3 k1
 refine ⟨k3, k1, by omega, j1, fun h1 h2 => ?_⟩
 have m1 := Nat.mul_le_mul_right (u1 * A - v1 * B) h2
 have m2 := Nat.mul_le_mul_right (v2 * B - u2 * A) h1
 rw [Nat.one_mul] at m1 m2
 omega
theorem Leh.mixed2 {x0 y0 x y u1 u2 v1 v2 D ra rb A B : Nat} (h : Leh true x0 y0 x y u1 u2 v1 v2) (g1 : v2 ≤ y) (g2 : y + v1 + v2 ≤ x) (hA : A = x0 * D + ra) (hB : B = y0 * D + rb) (ha : ra < D) (hb : rb < D) :
  u1 * A ≤ v1 * B ∧ v2 * B ≤ u2 * A ∧ u2 * A - v2 * B ≤ v1 * B - u1 * A ∧ Nat.gcd (v1 * B - u1 * A) (u2 * A - v2 * B) = Nat.gcd A B ∧ (1 ≤ v1 → v1 * B - u1 * A + (u2 * A - v2 * B) ≤ A) := by
 have ix : x + u1 * x0 = v1 * y0 := by simpa using h.idx
 have iy : y + v2 * y0 = u2 * x0 := by simpa using h.idy
 have dt : u2 * v1 = u1 * v2 + 1 := by simpa using h.det
 have sm := h.sum
 have k1 := low_ge iy g1 hB hA hb
 have k2 : (u1 + u2) * A ≤ (v1 + v2) * B := low_ge (y := x - y) (by rw [Nat.add_mul, Nat.add_mul]; omega) (by omega) hA hB ha
 rw [Nat.add_mul, Nat.add_mul] at k2
 have k3 : u1 * A ≤ v1 * B := by omega
 obtain ⟨j1, j2⟩ := uni_gcd (p := v1) (q := u1) (r := v2) (s := u2) (A := B) (B := A) (by rw [Nat.mul_comm, dt, Nat.mul_comm]) k3 k1
 have j3 : A = v2 * (v1 * B - u1 * A) + v1 * (u2 * A - v2 * B) := by
  obtain ⟨a, ha'⟩ : ∃ a, v1 * B = a + u1 * A := ⟨v1 * B - u1 * A, by omega⟩
  obtain ⟨b, hb'⟩ : ∃ b, u2 * A = b + v2 * B := ⟨u2 * A - v2 * B, by omega⟩
  have ea : v1 * B - u1 * A = a := by omega
  have eb : u2 * A - v2 * B = b := by omega
  rw [ea, eb]
  have e1 : v2 * (v1 * B) = v2 * (a + u1 * A) := by rw [ha']
  have e2 : v1 * (u2 * A) = v1 * (b + v2 * B) := by rw [hb']
  have e3 : u2 * v1 * A = (u1 * v2 + 1) * A := by rw [dt]
  grind
 refine ⟨k3, k1, by omega, by rw [j1, Nat.gcd_comm], fun h1 => ?_⟩
 have m1 := Nat.mul_le_mul_right (v1 * B - u1 * A) h.v2p
 have m2 := Nat.mul_le_mul_right (u2 * A - v2 * B) h1
 rw [Nat.one_mul] at m1 m2
 omega
end
section
open Go.RowKit
theorem times_plus {a b c : Nat} (ha : a < 18446744073709551616) (hb : b < 18446744073709551616) (hc : c < 18446744073709551616) : a * b / 18446744073709551616 + (a * b % 18446744073709551616 + c) / 18446744073709551616 = (a * b + c) / 18446744073709551616 ∧ (a * b % 18446744073709551616 + c) % 18446744073709551616 = (a * b + c) % 18446744073709551616 ∧ (a * b + c) / 18446744073709551616 < 18446744073709551616 := by
 have h1 : a * b ≤ 18446744073709551615 * 18446744073709551615 := Nat.mul_le_mul (by omega) (by omega)
 generalize a * b = p at *
 omega
set_option maxHeartbeats 400000 in
theorem timesPlus_any (a b c : Nat) (ha : a < 18446744073709551616) (hb : b < 18446744073709551616) (hc : c < 18446744073709551616) (w : World) :
  Calls Tryz.prog 216 #[.int .u64 (a : Int), .int .u64 (b : Int), .int .u64 (c : Int)] w fun e w' => e = .returned (.tuple #[.int .u64 (((a * b + c) % 18446744073709551616 : Nat) : Int), .int .u64 (((a * b + c) / 18446744073709551616 : Nat) : Int)]) ∧ w = w' := by
 obtain ⟨h1, h2, h3⟩ := times_plus ha hb hc
 have hm := fun W => mul64_any a b W ha hb
 have a1 : ∀ W, (callFunc 208 #[.int .u64 ((a * b % 18446744073709551616 : Nat) : Int), .int .u64 (c : Int), .int .u64 0]).run Tryz.prog W = .ok (.value (.tuple #[.int .u64 (((a * b + c) % 18446744073709551616 : Nat) : Int), .int .u64 (((a * b % 18446744073709551616 + c) / 18446744073709551616 : Nat) : Int)])) W := fun W => by
  have := add64_run (a * b % 18446744073709551616) c 0 (by omega) W
  rw [Nat.add_zero, h2] at this
  exact this
 obtain ⟨hi, hhi⟩ : ∃ hi, hi = a * b / 18446744073709551616 := ⟨_, rfl⟩
 obtain ⟨lo, hlo⟩ : ∃ lo, lo = a * b % 18446744073709551616 := ⟨_, rfl⟩
 obtain ⟨ov, hov⟩ : ∃ ov, ov = (lo + c) / 18446744073709551616 := ⟨_, rfl⟩
 obtain ⟨l2, hl2⟩ : ∃ l2, l2 = (a * b + c) % 18446744073709551616 := ⟨_, rfl⟩
 obtain ⟨h9, hh9⟩ : ∃ h9, h9 = (a * b + c) / 18446744073709551616 := ⟨_, rfl⟩
 rw [← hhi, ← hlo] at hm
 rw [← hlo, ← hl2, ← hov] at a1
 rw [← hhi, ← hlo, ← hov, ← hh9] at h1
 rw [← hh9] at h3
 rw [← hl2, ← hh9]
 have e1 : (hi : Int) + (ov : Int) = (h9 : Int) := by omega
 have Hm := hi9 hm
 clear hhi hlo hov hl2 hh9 h1 h2 hm
 go_enter Tryz.func216, Tryz.ntmps216
 go_wp2_with (first
  | simp only []
  | (go_at_call 131; (with_reducible refine (Hm.out _).mono ?_); rintro e w' ⟨rfl, rfl⟩))
 go_ret2
 exact ⟨rfl, rfl⟩
theorem app_cell {w : World} {g j : Nat} {xs r : List Nat} (h : Blk w g 116 (u64s (xs ++ r))) (hj : j < xs.length) : w.cell? ⟨g, j, none⟩ = some (.int .u64 (xs[j] : Nat)) := by
 rw [h.cell, u64s_at (by rw [List.length_append]; omega), List.getElem_append_left hj]
theorem app_set {w : World} {g j : Nat} {xs r : List Nat} (h : Blk w g 116 (u64s (xs ++ r))) (hj : j < xs.length) (v : Nat) : Blk (w.setCell ⟨g, j, none⟩ (.int .u64 (v : Int))) g 116 (u64s (xs.set j v ++ r)) := by
 have h1 := h.set_ j (.int .u64 (v : Int))
 have e : (u64s (xs ++ r)).set j (.int .u64 (v : Int)) = u64s (xs.set j v ++ r) := by
  rw [show u64s (xs.set j v ++ r) = u64s ((xs ++ r).set j v) from by rw [List.set_append_left _ _ hj]]
  simp [u64s, List.map_set]
 rwa [e] at h1
theorem mix_eq {P A L K a ly kx up up' down down' less less' plus minus : Nat} (e : A + L + P * up = K + P * (down + less)) (h1 : kx + up = plus + 18446744073709551616 * up') (h2 : ly + down = minus + 18446744073709551616 * down') (h3 : a + minus + less = plus + 18446744073709551616 * less') : A + P * a + (L + P * ly) + P * 18446744073709551616 * up' = K + P * kx + P * 18446744073709551616 * (down' + less') := by
 grind
theorem sub_word {p m c : Nat} (hp : p < 18446744073709551616) (hm : m < 18446744073709551616) (hc : c ≤ 1) : (p + 18446744073709551616 - m - c) % 18446744073709551616 + m + c = p + 18446744073709551616 * (if p < m + c then 1 else 0) ∧ (p + 18446744073709551616 - m - c) % 18446744073709551616 < 18446744073709551616 := by
 split <;> omega
theorem mix_last {A L K P up q : Nat} (h : A + L + P * up = K + P * q) (hA : A < P) (hL : L ≤ K) (hK : K - L < P) : A = K - L := by
 obtain ⟨R, hR⟩ : ∃ R, K = R + L := ⟨K - L, by omega⟩
 have e : A + P * up = R + P * q := by omega
 have e1 : (A + P * up) % P = (R + P * q) % P := by rw [e]
 rw [Nat.add_mul_mod_self_left, Nat.add_mul_mod_self_left, Nat.mod_eq_of_lt hA, Nat.mod_eq_of_lt (by omega)] at e1
 omega
structure MixH (xs ys : List Nat) (k l j : Nat) (zs : List Nat) (up down less : Nat) : Prop where
 len : zs.length = xs.length
 rest : zs.drop j = xs.drop j
 dig : Dig 18446744073709551616 zs
 eq : val 18446744073709551616 (zs.take j) + l * val 18446744073709551616 (ys.take j) + 18446744073709551616 ^ j * up = k * val 18446744073709551616 (xs.take j) + 18446744073709551616 ^ j * (down + less)
 u1 : up < 18446744073709551616
 u2 : down < 18446744073709551616
 u3 : less ≤ 1
theorem MixH.start {xs ys : List Nat} {k l : Nat} (hd : Dig 18446744073709551616 xs) : MixH xs ys k l 0 xs 0 0 0 :=
 ⟨rfl, rfl, hd, by simp [val], by omega, by omega, by omega⟩
theorem MixH.at_ {xs ys zs : List Nat} {k l j up down less : Nat} (h : MixH xs ys k l j zs up down less) (hj : j < xs.length) : ∃ h1 : j < zs.length, zs[j] = xs[j] := by
 have h1 : j < zs.length := by rw [h.len]; exact hj
 refine ⟨h1, ?_⟩
 have h2 := congrArg (fun z => z[0]?) h.rest
 simp only [List.getElem?_drop, Nat.add_zero] at h2
 rw [List.getElem?_eq_getElem h1, List.getElem?_eq_getElem hj] at h2
 exact Option.some.inj h2
theorem MixH.step {xs ys zs : List Nat} {k l j up down less plus minus d c : Nat} (h : MixH xs ys k l j zs up down less) (hj : j < xs.length) (hj2 : j < ys.length) (q1 : (xs[j] * k + up) / 18446744073709551616 < 18446744073709551616) (q2 : (ys[j] * l + down) / 18446744073709551616 < 18446744073709551616) (hp : plus = (xs[j] * k + up) % 18446744073709551616) (hm : minus = (ys[j] * l + down) % 18446744073709551616) (s1 : d + minus + less = plus + 18446744073709551616 * c) (s2 : d < 18446744073709551616) (s3 : c ≤ 1) :
  MixH xs ys k l (j + 1) (zs.set j d) ((xs[j] * k + up) / 18446744073709551616) ((ys[j] * l + down) / 18446744073709551616) c := by
 have hja : j < zs.length := by rw [h.len]; exact hj
 have h1 : xs[j] * k + up = plus + 18446744073709551616 * ((xs[j] * k + up) / 18446744073709551616) := by rw [hp]; exact (Nat.mod_add_div _ _).symm
 have h2 : ys[j] * l + down = minus + 18446744073709551616 * ((ys[j] * l + down) / 18446744073709551616) := by rw [hm]; exact (Nat.mod_add_div _ _).symm
 generalize (xs[j] * k + up) / 18446744073709551616 = up' at *
 generalize (ys[j] * l + down) / 18446744073709551616 = down' at *
 refine ⟨by rw [List.length_set]; exact h.len, ?_, h.dig.set_ _ _ s2, ?_, q1, q2, s3⟩
 ·rw [List.drop_set_of_lt (Nat.lt_succ_self j)]
  have := congrArg (List.drop 1) h.rest
  rw [List.drop_drop, List.drop_drop] at this
  exact this
 ·have e1 : (zs.set j d).take (j + 1) = zs.take j ++ [d] := by
   rw [List.take_succ_eq_append_getElem (by rw [List.length_set]; exact hja), List.getElem_set_self, List.take_set_of_le nl9]
  have e2 : val 18446744073709551616 (zs.take j ++ [d]) = val 18446744073709551616 (zs.take j) + 18446744073709551616 ^ j * d := by
   rw [val_append, List.length_take, Nat.min_eq_left (Nat.le_of_lt hja)]
   simp [val]
  rw [e1, e2, val_take_succ _ _ _ hj, val_take_succ _ _ _ hj2, Nat.mul_add l, Nat.mul_add k, Nat.mul_left_comm l, Nat.mul_left_comm k, Nat.pow_succ, Nat.mul_comm l ys[j], Nat.mul_comm k xs[j]]
  exact mix_eq h.eq h1 h2 s1
theorem MixH.end_ {xs ys zs : List Nat} {k l up down less : Nat} (h : MixH xs ys k l xs.length zs up down less) (hy : ys.length = xs.length) (h1 : l * val 18446744073709551616 ys ≤ k * val 18446744073709551616 xs) (h2 : k * val 18446744073709551616 xs - l * val 18446744073709551616 ys < 18446744073709551616 ^ xs.length) : val 18446744073709551616 zs = k * val 18446744073709551616 xs - l * val 18446744073709551616 ys := by
 have e := h.eq
 rw [List.take_of_length_le (by rw [h.len]; exact Nat.le_refl _), List.take_of_length_le (by omega), List.take_length] at e
 have hv := val_lt _ _ h.dig
 rw [h.len] at hv
 exact mix_last e hv h1 h2
set_option maxRecDepth 100000 in
set_option maxHeartbeats 3200000 in
theorem mix_any (ga gb ca cb : Nat) (xs ys ra rb : List Nat) (k l m n B : Nat) (w : World) (hba : Blk w ga 116 (u64s (xs ++ ra))) (hbb : Blk w gb 116 (u64s (ys ++ rb))) (hne : ga ≠ gb) (hB : B ≤ ga) (hB2 : B ≤ gb) (hl : ys.length = xs.length) (_ : xs.length ≤ ca) (hcb : xs.length ≤ cb) (hm48 : xs.length ≤ 281474976710656) (hdx : Dig 18446744073709551616 xs) (hdy : Dig 18446744073709551616 ys)
  (hk : k < 18446744073709551616) (hl' : l < 18446744073709551616) (hm : m < 18446744073709551616) (hn : n < 18446744073709551616) (a1 : l * val 18446744073709551616 ys ≤ k * val 18446744073709551616 xs) (a2 : k * val 18446744073709551616 xs - l * val 18446744073709551616 ys < 18446744073709551616 ^ xs.length) (b1 : n * val 18446744073709551616 xs ≤ m * val 18446744073709551616 ys) (b2 : m * val 18446744073709551616 ys - n * val 18446744073709551616 xs < 18446744073709551616 ^ xs.length) :
  Calls Tryz.prog 206 #[.slice (some ⟨ga, 0, none⟩) xs.length ca, .slice (some ⟨gb, 0, none⟩) xs.length cb, .int .u64 (k : Int), .int .u64 (l : Int), .int .u64 (m : Int), .int .u64 (n : Int)] w fun e w' => ∃ xs2 ys2 : List Nat, e = .returned (.tuple #[]) ∧ xs2.length = xs.length ∧ ys2.length = xs.length ∧ Dig 18446744073709551616 xs2 ∧ Dig 18446744073709551616 ys2 ∧ val 18446744073709551616 xs2 = k * val 18446744073709551616 xs - l * val 18446744073709551616 ys ∧ val 18446744073709551616 ys2 = m * val 18446744073709551616 ys - n * val 18446744073709551616 xs ∧
   Blk w' ga 116 (u64s (xs2 ++ ra)) ∧ Blk w' gb 116 (u64s (ys2 ++ rb)) ∧ Below B w w' := by
 have HA := hi9 (show _ ∧ _ from ⟨a1, a2⟩)
 have HB := hi9 (show _ ∧ _ from ⟨b1, b2⟩)
 have Hl := hi9 hl
 clear a1 a2 b1 b2 hl
 go_enter Tryz.func206, Tryz.ntmps206
 go_wp2_with fail
 go_loopw [12, 13, 14, 15, 16, 17, 18, 19, 20, 21, 22, 29] (fun s12 s13 s14 s15 s16 s17 _ _ _ _ _ iv wr => ∃ (j up down less up2 down2 less2 : Nat) (zs zs2 : List Nat), j ≤ xs.length ∧ iv = .int .i64 (j : Int) ∧ s12 = .int .u64 (up : Int) ∧ s13 = .int .u64 (down : Int) ∧ s14 = .int .u64 (less : Int) ∧ s15 = .int .u64 (up2 : Int) ∧ s16 = .int .u64 (down2 : Int) ∧ s17 = .int .u64 (less2 : Int) ∧ Hid (MixH xs ys k l j zs up down less) ∧ Hid (MixH ys xs m n j zs2 up2 down2 less2) ∧ Blk wr ga 116 (u64s (zs ++ ra)) ∧ Blk wr gb 116 (u64s (zs2 ++ rb)) ∧ Below B w wr) (fun _ _ _ _ _ _ _ _ _ _ _ iv _ => xs.length - (intOf iv).toNat)
 case atStart => exact ⟨0, 0, 0, 0, 0, 0, 0, xs, ys, by omega, rfl, rfl, rfl, rfl, rfl, rfl, rfl, MixH.start hdx, MixH.start hdy, hba, hbb, br9⟩
 case round =>
  clear hba hbb
  obtain ⟨j, up, down, less, up2, down2, less2, zs, zs2, hj, rfl, rfl, rfl, rfl, rfl, rfl, rfl, H1, H2, hba, hbb, hbel⟩ := hrel
  by_cases hlt : j < xs.length
  ·have hlt2 : j < ys.length := by rw [Hl.out]; exact hlt
   obtain ⟨z1, e1⟩ := H1.out.at_ hlt
   obtain ⟨z2, e2⟩ := H2.out.at_ hlt2
   have cx := app_cell hba z1
   have cy := app_cell hbb z2
   rw [e1] at cx
   rw [e2] at cy
   have dx := hdx.at_ j hlt
   have dy := hdy.at_ j hlt2
   obtain ⟨x, hx⟩ : ∃ x, x = xs[j] := ⟨_, rfl⟩
   obtain ⟨y, hy⟩ : ∃ y, y = ys[j] := ⟨_, rfl⟩
   rw [← hx] at cx dx
   rw [← hy] at cy dy
   obtain ⟨p1, hp1⟩ : ∃ p, p = (x * k + up) % 18446744073709551616 := ⟨_, rfl⟩
   obtain ⟨q1, hq1⟩ : ∃ p, p = (x * k + up) / 18446744073709551616 := ⟨_, rfl⟩
   obtain ⟨p2, hp2⟩ : ∃ p, p = (y * l + down) % 18446744073709551616 := ⟨_, rfl⟩
   obtain ⟨q2, hq2⟩ : ∃ p, p = (y * l + down) / 18446744073709551616 := ⟨_, rfl⟩
   obtain ⟨p3, hp3⟩ : ∃ p, p = (y * m + up2) % 18446744073709551616 := ⟨_, rfl⟩
   obtain ⟨q3, hq3⟩ : ∃ p, p = (y * m + up2) / 18446744073709551616 := ⟨_, rfl⟩
   obtain ⟨p4, hp4⟩ : ∃ p, p = (x * n + down2) % 18446744073709551616 := ⟨_, rfl⟩
   obtain ⟨q4, hq4⟩ : ∃ p, p = (x * n + down2) / 18446744073709551616 := ⟨_, rfl⟩
   have T1 := hi9 (timesPlus_any x k up dx hk H1.out.u1)
   have T2 := hi9 (timesPlus_any y l down dy hl' H1.out.u2)
   have T3 := hi9 (timesPlus_any y m up2 dy hm H2.out.u1)
   have T4 := hi9 (timesPlus_any x n down2 dx hn H2.out.u2)
   rw [← hp1, ← hq1] at T1
   rw [← hp2, ← hq2] at T2
   rw [← hp3, ← hq3] at T3
   rw [← hp4, ← hq4] at T4
   have b1 : p1 < 18446744073709551616 := by rw [hp1]; exact Nat.mod_lt _ (by omega)
   have b2 : p2 < 18446744073709551616 := by rw [hp2]; exact Nat.mod_lt _ (by omega)
   have b3 : p3 < 18446744073709551616 := by rw [hp3]; exact Nat.mod_lt _ (by omega)
   have b4 : p4 < 18446744073709551616 := by rw [hp4]; exact Nat.mod_lt _ (by omega)
   have i1 : ∀ c : Prop, [Decidable c] → (if c then 1 else 0 : Nat) ≤ 1 := fun c _ => by split <;> omega
   have N1 := H1.out.step (plus := p1) (minus := p2) hlt hlt2 (times_plus (hdx.at_ j hlt) hk H1.out.u1).2.2 (times_plus (hdy.at_ j hlt2) hl' H1.out.u2).2.2 (by rw [← hx]; exact hp1) (by rw [← hy]; exact hp2) (sub_word b1 b2 H1.out.u3).1 (sub_word b1 b2 H1.out.u3).2 (i1 _)
   have N2 := H2.out.step (plus := p3) (minus := p4) hlt2 hlt (times_plus (hdy.at_ j hlt2) hm H2.out.u1).2.2 (times_plus (hdx.at_ j hlt) hn H2.out.u2).2.2 (by rw [← hy]; exact hp3) (by rw [← hx]; exact hp4) (sub_word b3 b4 H2.out.u3).1 (sub_word b3 b4 H2.out.u3).2 (i1 _)
   clear b1 b2 b3 b4 i1
   rw [← hx, ← hy, ← hq1, ← hq2] at N1
   rw [← hx, ← hy, ← hq3, ← hq4] at N2
   have s1 := fun W => sub64_run p1 p2 less H1.out.u3 W
   have s2 := fun W => sub64_run p3 p4 less2 H2.out.u3 W
   obtain ⟨d1, hd1⟩ : ∃ d, d = (p1 + 18446744073709551616 - p2 - less) % 18446744073709551616 := ⟨_, rfl⟩
   obtain ⟨d2, hd2⟩ : ∃ d, d = (p3 + 18446744073709551616 - p4 - less2) % 18446744073709551616 := ⟨_, rfl⟩
   obtain ⟨c1, hc1⟩ : ∃ d : Nat, d = (if p1 < p2 + less then 1 else 0) := ⟨_, rfl⟩
   obtain ⟨c2, hc2⟩ : ∃ d : Nat, d = (if p3 < p4 + less2 then 1 else 0) := ⟨_, rfl⟩
   rw [← hd1, ← hc1] at s1 N1
   rw [← hd2, ← hc2] at s2 N2
   have NN1 := hi9 N1
   have NN2 := hi9 N2
   have hf1 := hba.frozen j
   have hba2 := app_set hba z1 d1
   have hbb2 := (hbb.far (p := ⟨ga, j, none⟩) (by simp; omega) (.int .u64 (d1 : Int)))
   have cy2 := app_cell hbb2 z2
   have hf2 := hbb2.frozen j
   clear hp1 hq1 hp2 hq2 hp3 hq3 hp4 hq4 hd1 hd2 hc1 hc2 N1 N2 e1 e2 hx hy H1 H2
   go_wp2_with (go_at_call 216; first
    | ((with_reducible refine (T1.out _).mono ?_); rintro e w' ⟨rfl, rfl⟩)
    | ((with_reducible refine (T2.out _).mono ?_); rintro e w' ⟨rfl, rfl⟩)
    | ((with_reducible refine (T3.out _).mono ?_); rintro e w' ⟨rfl, rfl⟩)
    | ((with_reducible refine (T4.out _).mono ?_); rintro e w' ⟨rfl, rfl⟩))
   go_roundw
   case rel => exact ⟨j + 1, q1, q2, c1, q3, q4, c2, zs.set j d1, zs2.set j d2, by omega, by go_num, rfl, rfl, rfl, rfl, rfl, rfl, NN1.out, NN2.out, hba2.far (p := ⟨gb, j, none⟩) (by simp; omega) _, app_set hbb2 z2 d2, (hbel.setCell (p := ⟨ga, j, none⟩) hB _).setCell (p := ⟨gb, j, none⟩) hB2 _⟩
   case measure => simp [intOf]; omega
  ·obtain rfl : j = xs.length := by omega
   have h1 := H1.out.end_ Hl.out HA.out.1 HA.out.2
   have h2 := H2.out
   rw [← Hl.out] at h2
   have h3 := h2.end_ Hl.out.symm HB.out.1 (by rw [Hl.out]; exact HB.out.2)
   have Hr := hi9 (show _ ∧ _ ∧ _ ∧ _ from ⟨h1, h3, H1.out.len, h2.len.trans Hl.out⟩)
   clear h1 h2 h3
   go_wp2_with fail
   go_end0
   exact ⟨zs, zs2, rfl, Hr.out.2.2.1, Hr.out.2.2.2, H1.out.dig, H2.out.dig, Hr.out.1, Hr.out.2.1, hba, hbb, hbel⟩
end
end Go.Proofs.YtbcphifjcaobfaaGreatDoor
