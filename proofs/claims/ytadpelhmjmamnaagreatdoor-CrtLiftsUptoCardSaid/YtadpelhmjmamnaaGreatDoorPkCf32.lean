/- The contracts of zint's sums, products and forms. No conditions beyond the sizes. Limbs lie apart from variables that hold integers: their blocks are of another type; the blocks of a call's own variables. No conditions. The contract of the reference's half. Conditions: limbs. The contract of the reference's Len. -/
import Derived.Test.YtadpelhmjmamnaaGreatDoorPkCf30
import Derived.Deep.RegionHeld3
import Derived.Test.YtadpelhmjmamnaaGreatDoorPkCf21
import Derived.Test.YtadpelhmjmamnaaGreatDoorPkCf20
namespace Go.Proofs.YtadpelhmjmamnaaGreatDoor
section
open Go.RowKit

section
variable {w : World} {g g2 : Bool} {A A2 : Option Addr} {c c2 K J : Nat} {xs ys : List Nat} {z y : Int}
set_option maxHeartbeats 1600000 in
theorem Zh.sub (h : Zh w g A c xs z K) (h2 : Zh w g2 A2 c2 ys y J) (hK : K ≤ 67108864) (hJ : J ≤ 67108864) :
    Calls Tryz.prog 77 #[.agg #[.bool g, .slice A xs.length c], .agg #[.bool g2, .slice A2 ys.length c2]] w fun e w' => ZOut w w' (z - y) e := by
  have e9 : Hid (∀ W : World, Below w.heap.size w W → Calls Tryz.prog 112 #[.bool g, .slice A xs.length c, .bool !g2, .slice A2 ys.length c2] W fun e w' => ZOut W w' (z - y) e) := fun W hW => by
    have := zadded_any g (!g2) (h.hv.next hW) (h2.hv.next hW) hK hJ
    rwa [h.sg, ← neg_ival, h2.sg, ← Int.sub_eq_add_neg] at this
  clear h h2
  go_enter Tryz.func77, Tryz.ntmps77
  go_wp2_with fail
  refine (e9.out _ (bel_three _ _ _ _)).mono ?_
  rintro e w1 ⟨zs, A', c', rfl, hz, hr, hb⟩
  obtain ⟨hc, hf⟩ := bcell hb
  have hB := (blk_res2 w (.cells #[.bool g, .slice A xs.length c] 37) (.cells #[.bool g2, .slice A2 ys.length c2] 37) (.bool false) (.slice none 0 0)).below hb (by simp)
  go_wp2
  exact zret ((bel_three _ _ _ _).trans (hb.mono (bel_three _ _ _ _).size)) hB (by omega) hz hr (by simp) rfl rfl rfl
set_option maxHeartbeats 1600000 in
theorem Zh.mul (h : Zh w g A c xs z K) (h2 : Zh w g2 A2 c2 ys y J) (hK : K ≤ 67108864) (hJ : J ≤ 67108864) :
    Calls Tryz.prog 76 #[.agg #[.bool g, .slice A xs.length c], .agg #[.bool g2, .slice A2 ys.length c2]] w fun e w' => ZOut w w' (z * y) e := by
  have e9 : Hid (∀ W : World, Below w.heap.size w W → Calls Tryz.prog 79 #[.slice A xs.length c, .slice A2 ys.length c2] W fun e w' => NOut W w' (z.natAbs * y.natAbs) e) := fun W hW => Hv.mulN (h.hv.next hW) (h2.hv.next hW) hK hJ
  have Hv9 : Hid ((z * y) = ivalN (!(g == g2)) (z.natAbs * y.natAbs)) := by show _ = _; rw [show (!(g == g2)) = (g != g2) from rfl, ← mul_ival, h.sg, h2.sg]
  have hl3 : w.heap.size < w.heap.size + 1 + 1 + 1 := by omega
  have hn1 : w.heap.size + 1 + 1 ≠ w.heap.size := by omega
  have hn2 : w.heap.size ≠ w.heap.size + 1 + 1 := by omega
  clear h h2
  go_enter Tryz.func76, Tryz.ntmps76
  go_wp2_with fail
  go_region_held3 (fun W => W.cell? ⟨w.heap.size, 0, none⟩ = some (.bool g) ∧ W.cell? ⟨w.heap.size, 1, none⟩ = some (.slice A xs.length c) ∧ W.cell? ⟨w.heap.size + 1, 0, none⟩ = some (.bool g2) ∧ W.cell? ⟨w.heap.size + 1, 1, none⟩ = some (.slice A2 ys.length c2)) (go_keep) (first
    | (go_at_call 79; (with_reducible refine (e9.out _ (by first | exact bel_three _ _ _ _ | exact (bel_three _ _ _ _).trans (((Dr.refl _).step _).below _))).mono ?_); rintro e w1 ⟨zs, A', c', rfl, hz, hr, hb⟩; obtain ⟨hc, hf⟩ := bcell hb; have q3 : w.heap.size + 1 + 1 < w1.heap.size := Nat.lt_of_lt_of_le (Nat.lt_succ_self _) (show w.heap.size + 1 + 1 + 1 ≤ w1.heap.size by simpa using hb.size); have q2 : w.heap.size + 1 < w1.heap.size := Nat.lt_of_succ_lt q3; have q1 : w.heap.size < w1.heap.size := Nat.lt_of_succ_lt q2)
    | (go_at_call 110; (with_reducible refine (made_num _ _ hz Hv9.out _ (res_len hr)).mono ?_); rintro e w2 ⟨rfl, hb2⟩; obtain ⟨hc2, hf2⟩ := bcell hb2))
  all_goals
    have k1 : Below w.heap.size w w1 := bst (by first | exact bel_three _ _ _ _ | exact (bel_three _ _ _ _).trans (((Dr.refl _).step _).below _)) hb (Nat.le_refl _)
    have hB : Blk w1 (w.heap.size + 2) 37 [.bool false, .slice none 0 0] := by first | exact (blk_res2 w _ _ _ _).below hb (by simp) | exact ((blk_res2 w _ _ _ _).drewN _).below hb (by simp) | exact (blk_res2 w _ _ _ _).drew.below hb (by simp)
    go_wp2_with fail
    exact zret (z := z * y) (bst k1 hb2 (Nat.le_refl _)) (hB.below hb2 (by omega)) (by omega) (num_eq hz (by rw [Hv9.out, abs_ival])) (hr.below hb2 (Nat.le_refl _)) (by simp; try omega) rfl rfl rfl

set_option maxHeartbeats 1600000 in
theorem Zh.norm (h : Zh w g A c xs z K) (hK : K ≤ 67108864) :
    Calls Tryz.prog 84 #[.agg #[.bool g, .slice A xs.length c]] w fun e w' => ZOut w w' (z) e := by
  have e9 : Hid (∀ W : World, Below w.heap.size w W → Calls Tryz.prog 61 #[.slice A xs.length c] W fun e w' => NOut W w' z.natAbs e) := fun W hW => Hv.normN (h.hv.next hW) hK
  have Hv9 : Hid ((z) = ivalN (g) z.natAbs) := by show _ = _; exact h.sg.symm
  have hl3 : w.heap.size < w.heap.size + 1 + 1 := by omega
  have hn1 : w.heap.size + 1 ≠ w.heap.size := by omega
  have hn2 : w.heap.size ≠ w.heap.size + 1 := by omega
  clear h
  go_enter Tryz.func84, Tryz.ntmps84
  go_wp2_with fail
  go_region_held3 (fun W => W.cell? ⟨w.heap.size, 0, none⟩ = some (.bool g) ∧ W.cell? ⟨w.heap.size, 1, none⟩ = some (.slice A xs.length c)) (go_keep) (first
    | (go_at_call 61; (with_reducible refine (e9.out _ (by first | exact bel_two _ _ _ | exact (bel_two _ _ _).trans (((Dr.refl _).step _).below _))).mono ?_); rintro e w1 ⟨zs, A', c', rfl, hz, hr, hb⟩; obtain ⟨hc, hf⟩ := bcell hb; have q2 : w.heap.size + 1 < w1.heap.size := Nat.lt_of_lt_of_le (Nat.lt_succ_self _) (show w.heap.size + 1 + 1 ≤ w1.heap.size by simpa using hb.size); have q1 : w.heap.size < w1.heap.size := Nat.lt_of_succ_lt q2)
    | (go_at_call 110; (with_reducible refine (made_num _ _ hz Hv9.out _ (res_len hr)).mono ?_); rintro e w2 ⟨rfl, hb2⟩; obtain ⟨hc2, hf2⟩ := bcell hb2))
  all_goals
    have k1 : Below w.heap.size w w1 := bst (by first | exact bel_two _ _ _ | exact (bel_two _ _ _).trans (((Dr.refl _).step _).below _)) hb (Nat.le_refl _)
    have hB : Blk w1 (w.heap.size + 1) 37 [.bool false, .slice none 0 0] := by first | exact (blk_res1 w _ _ _).below hb (by simp) | exact ((blk_res1 w _ _ _).drewN _).below hb (by simp) | exact (blk_res1 w _ _ _).drew.below hb (by simp)
    go_wp2_with fail
    exact zret (z := z) (bst k1 hb2 (Nat.le_refl _)) (hB.below hb2 (by omega)) (by omega) (num_eq hz (by rw [Hv9.out, abs_ival])) (hr.below hb2 (Nat.le_refl _)) (by simp; try omega) rfl rfl rfl

set_option maxHeartbeats 1600000 in
theorem Zh.neg (h : Zh w g A c xs z K) (hK : K ≤ 67108864) :
    Calls Tryz.prog 83 #[.agg #[.bool g, .slice A xs.length c]] w fun e w' => ZOut w w' (-z) e := by
  have e9 : Hid (∀ W : World, Below w.heap.size w W → Calls Tryz.prog 61 #[.slice A xs.length c] W fun e w' => NOut W w' z.natAbs e) := fun W hW => Hv.normN (h.hv.next hW) hK
  have Hv9 : Hid ((-z) = ivalN (!g) z.natAbs) := by show _ = _; rw [← neg_ival, h.sg]
  have hl3 : w.heap.size < w.heap.size + 1 + 1 := by omega
  have hn1 : w.heap.size + 1 ≠ w.heap.size := by omega
  have hn2 : w.heap.size ≠ w.heap.size + 1 := by omega
  clear h
  go_enter Tryz.func83, Tryz.ntmps83
  go_wp2_with fail
  go_region_held3 (fun W => W.cell? ⟨w.heap.size, 0, none⟩ = some (.bool g) ∧ W.cell? ⟨w.heap.size, 1, none⟩ = some (.slice A xs.length c)) (go_keep) (first
    | (go_at_call 61; (with_reducible refine (e9.out _ (by first | exact bel_two _ _ _ | exact (bel_two _ _ _).trans (((Dr.refl _).step _).below _))).mono ?_); rintro e w1 ⟨zs, A', c', rfl, hz, hr, hb⟩; obtain ⟨hc, hf⟩ := bcell hb; have q2 : w.heap.size + 1 < w1.heap.size := Nat.lt_of_lt_of_le (Nat.lt_succ_self _) (show w.heap.size + 1 + 1 ≤ w1.heap.size by simpa using hb.size); have q1 : w.heap.size < w1.heap.size := Nat.lt_of_succ_lt q2)
    | (go_at_call 110; (with_reducible refine (made_num _ _ hz Hv9.out _ (res_len hr)).mono ?_); rintro e w2 ⟨rfl, hb2⟩; obtain ⟨hc2, hf2⟩ := bcell hb2))
  all_goals
    have k1 : Below w.heap.size w w1 := bst (by first | exact bel_two _ _ _ | exact (bel_two _ _ _).trans (((Dr.refl _).step _).below _)) hb (Nat.le_refl _)
    have hB : Blk w1 (w.heap.size + 1) 37 [.bool false, .slice none 0 0] := by first | exact (blk_res1 w _ _ _).below hb (by simp) | exact ((blk_res1 w _ _ _).drewN _).below hb (by simp) | exact (blk_res1 w _ _ _).drew.below hb (by simp)
    go_wp2_with fail
    exact zret (z := -z) (bst k1 hb2 (Nat.le_refl _)) (hB.below hb2 (by omega)) (by omega) (num_eq hz (by rw [Hv9.out, abs_ival])) (hr.below hb2 (Nat.le_refl _)) (by simp; try omega) rfl rfl rfl

end
end
section
open Go.RowKit

theorem type_ne : 27 ≠ 37 := by decide
/-- A store into a variable that holds an integer leaves the limbs alone: they lie in blocks of another type. -/
theorem res_var {W : World} {B g i : Nat} {A : Option Addr} {c : Nat} {vs L : List Value} (h : Res W B 27 A c vs) (hB : Blk W g 37 L) (u : Value) : Res (W.setCell ⟨g, i, none⟩ u) B 27 A c vs :=
  ⟨h.1, h.2.1, fun hn => by
    obtain ⟨b, rest, e, hb, hk, hc⟩ := h.2.2 hn
    refine ⟨b, rest, e, hb, hk.far (p := ⟨g, i, none⟩) ?_ _, hc⟩
    rintro rfl
    unfold Blk at hk hB
    rw [hk] at hB
    have hB2 := Option.some.inj hB
    injection hB2 with _ e2 _
    exact type_ne e2⟩
theorem res_var2 {W : World} {B g : Nat} {A : Option Addr} {c : Nat} {vs : List Value} {x y : Value} (h : Res W B 27 A c vs) (hB : Blk W g 37 [x, y]) (u v : Value) : Res ((W.setCell ⟨g, 0, none⟩ u).setCell ⟨g, 1, none⟩ v) B 27 A c vs :=
  res_var (res_var h hB u) (hB.set_ 0 u) v
theorem blk_three (w : World) (x0 y0 x1 y1 x2 y2 : Value) :
    Blk (((w.alloc (.cells #[x0, y0] 37)).alloc (.cells #[x1, y1] 37)).alloc (.cells #[x2, y2] 37)) w.heap.size 37 [x0, y0] ∧
    Blk (((w.alloc (.cells #[x0, y0] 37)).alloc (.cells #[x1, y1] 37)).alloc (.cells #[x2, y2] 37)) (w.heap.size + 1) 37 [x1, y1] ∧
    Blk (((w.alloc (.cells #[x0, y0] 37)).alloc (.cells #[x1, y1] 37)).alloc (.cells #[x2, y2] 37)) (w.heap.size + 2) 37 [x2, y2] :=
  ⟨(((Blk.new_ (cs := #[x0, y0]) (vs := [x0, y0]) rfl).heapAlloc _).heapAlloc _), (blk_res1 w _ x1 y1).heapAlloc _, blk_res2 w _ _ x2 y2⟩
theorem blk_one (w : World) (x0 y0 : Value) : Blk (w.alloc (.cells #[x0, y0] 37)) w.heap.size 37 [x0, y0] := Blk.new_ (cs := #[x0, y0]) (vs := [x0, y0]) rfl

/-- The function answers an integer that lies in a variable of its own. -/
theorem zretT {fn : Func} {a : Act} {w W : World} {p : Tmp} {r : Nat} {b : Bool} {x y : Value} {z : Int} {zs : List Nat} {A : Option Addr} {c : Nat} (hbel : Below w.heap.size w W) (hB : Blk W r 37 [x, y]) (hr : w.heap.size ≤ r)
    (hz : Num 4294967296 zs z.natAbs) (hres : Res W w.heap.size 27 A c (u32s zs)) (hb : b = isNeg z) (hres0 : fn.results = #[.cell p 37]) (hp : a.tmps.getD p undef = .pointer (some ⟨r, 0, none⟩)) (hd : a.defers = []) :
    bodyPost Tryz.prog fn (fun e w' => ZOut w w' z e) .ret a ((W.setCell ⟨r, 0, none⟩ (.bool b)).setCell ⟨r, 1, none⟩ (.slice A zs.length c)) := by
  subst hb
  exact bodyPost_ret (results_cell_row hres0 _ _ r 37 _ (0, 0) _ hp (blk_pair hB _ _) Tryz.underlying37 rfl (by kernel_rfl)) hd
    ⟨zs, A, c, rfl, hz, res_var2 hres hB _ _, bsc (bsc hbel hr _) hr _⟩

/-- A variable that holds an integer, in memory from block B on. -/
def Vr (B : Nat) (w : World) (g : Nat) (z : Int) (K : Nat) : Prop :=
  ∃ A c zs, Blk w g 37 [.bool (isNeg z), .slice A zs.length c] ∧ Num 4294967296 zs z.natAbs ∧ Res w B 27 A c (u32s zs) ∧ zs.length ≤ K
theorem Vr.next {B g K : Nat} {w w' : World} {z : Int} (v : Vr B w g z K) (hb : Below w.heap.size w w') : Vr B w' g z K := by
  obtain ⟨A, c, zs, hk, hz, hr, hl⟩ := v
  exact ⟨A, c, zs, hk.below hb hk.lt, hz, hr.below hb (Nat.le_refl _), hl⟩
theorem Vr.lt {B g K : Nat} {w : World} {z : Int} (v : Vr B w g z K) : g < w.heap.size := by
  obtain ⟨A, c, zs, hk, _⟩ := v
  exact hk.lt
theorem Vr.other {B g h K : Nat} {w : World} {z : Int} {x y : Value} (v : Vr B w g z K) (hh : Blk w h 37 [x, y]) (hne : g ≠ h) (x' y' : Value) : Vr B ((w.setCell ⟨h, 0, none⟩ x').setCell ⟨h, 1, none⟩ y') g z K := by
  obtain ⟨A, c, zs, hk, hz, hr, hl⟩ := v
  exact ⟨A, c, zs, (hk.far (p := ⟨h, 0, none⟩) hne _).far (p := ⟨h, 1, none⟩) hne _, hz, res_var2 hr hh _ _, hl⟩
theorem Vr.put {B g K : Nat} {w : World} {z : Int} {x y : Value} {A : Option Addr} {c : Nat} {zs : List Nat} (hk : Blk w g 37 [x, y]) (hz : Num 4294967296 zs z.natAbs) (hr : Res w B 27 A c (u32s zs)) (hl : zs.length ≤ K) :
    Vr B ((w.setCell ⟨g, 0, none⟩ (.bool (isNeg z))).setCell ⟨g, 1, none⟩ (.slice A zs.length c)) g z K := ⟨A, c, zs, blk_pair hk _ _, hz, res_var2 hr hk _ _, hl⟩
end
section
open Go.RowKit

def Halved (xs : List Nat) (k : Nat) (zs : List Nat) : Prop :=
  Dig 4294967296 zs ∧ 2 * val 4294967296 zs + at0 xs 0 % 2 = val 4294967296 (xs.take k) + 4294967296 ^ k * (at0 xs k % 2) ∧ ∀ j (h : j < zs.length), k ≤ j → zs[j] = 0
theorem Halved.start (xs : List Nat) (n : Nat) : Halved xs 0 (List.replicate n 0) :=
  ⟨Dig.zeros_ (by omega) _, by simp [val_zeros, val], fun j h _ => by simp⟩
theorem Halved.step {xs zs : List Nat} {k v : Nat} (h : Halved xs k zs) (hz : k < zs.length) (hd : Dig 4294967296 xs) (hv : v = at0 xs k / 2 + at0 xs (k + 1) % 2 * 2147483648) : Halved xs (k + 1) (zs.set k v) := by
  obtain ⟨h1, h2, h3⟩ := h
  have ha := at0_lt hd k
  refine ⟨h1.set_ _ _ (by omega), ?_, fun i hi hki => ?_⟩
  · have e1 := val_set 4294967296 zs k v hz
    rw [h3 k hz (Nat.le_refl _)] at e1
    rw [val_take_at0, Nat.pow_succ, Nat.mul_assoc]
    have e2 : 2 * v + at0 xs k % 2 = at0 xs k + 4294967296 * (at0 xs (k + 1) % 2) := by omega
    have e3 : 4294967296 ^ k * (2 * v + at0 xs k % 2) = 4294967296 ^ k * (at0 xs k + 4294967296 * (at0 xs (k + 1) % 2)) := by rw [e2]
    rw [Nat.mul_add, Nat.mul_add, Nat.mul_left_comm] at e3
    omega
  · rw [List.getElem_set, if_neg (by omega)]
    exact h3 i (by simpa using hi) (by omega)
theorem Halved.last {xs zs : List Nat} (h : Halved xs xs.length zs) : val 4294967296 zs = val 4294967296 xs / 2 := by
  have h2 := h.2.1
  rw [List.take_length, at0_out (Nat.le_refl _)] at h2
  have : at0 xs 0 % 2 < 2 := Nat.mod_lt _ (by omega)
  omega
end
section
open Go.RowKit
end
end Go.Proofs.YtadpelhmjmamnaaGreatDoor
