/- The contracts of the reference's Sub, Cmp and Mul on integer. The contracts of zint's divide, by the signs and the kind of. The contracts of zint's divide, by the signs and the kind of. The contracts of zint's divide, by the signs and the kind of. The contracts of zint's divide, by the signs and the kind of. -/
import Derived.Test.YtcjgilagldbjnaaGreatDoorPkBb44
import Derived.Test.YtcjgilagldbjnaaGreatDoorPkBb42
import Derived.Test.YtcjgilagldbjnaaGreatDoorPkBb41
import Derived.Test.YtcjgilagldbjnaaGreatDoorPkBb18
import Derived.Test.YtcjgilagldbjnaaGreatDoorPkBb40
import Derived.Test.YtcjgilagldbjnaaGreatDoorPkBb21
import Derived.Deep.DeepCutAuto
namespace Go.Proofs.YtcjgilagldbjnaaGreatDoor
section
open Go.RowKit
section
variable {w : World} {g g2 : Bool} {A A2 : Option Addr} {c c2 K J : Nat} {xs ys : List Nat} {z y : Int}
set_option maxHeartbeats 3200000 in
theorem Zh.rsub (h : Zh w g A c xs z K) (h2 : Zh w g2 A2 c2 ys y J) (hK : K ≤ 67108863) (hJ : J ≤ 67108863) :
  Calls Tryz.prog 53 #[.agg #[.bool g, .slice A xs.length c], .agg #[.bool g2, .slice A2 ys.length c2]] w fun e w' => ZOut w w' (z - y) e := by
 obtain ⟨b0, b1, b2⟩ := blk_three w (.bool g) (.slice A xs.length c) (.bool g2) (.slice A2 ys.length c2) (.bool false) (.slice none 0 0)
 have k0 := bel_three w (.cells #[.bool g, .slice A xs.length c] 25) (.cells #[.bool g2, .slice A2 ys.length c2] 25) (.cells #[.bool false, .slice none 0 0] 25)
 have NG : Hid (∀ W (_ : Below w.heap.size w W), Calls Tryz.prog 52 #[.agg #[.bool g2, .slice A2 ys.length c2]] W fun e w' => ZOut W w' (-y) e) := fun W hW => (h2.next hW).rneg (by omega)
 have AD : Hid (∀ (zn : List Nat) (An : Option Addr) (cn B9 : Nat) (wn W : World), Below w.heap.size w W → Num 4294967296 zn (-y).natAbs → Res wn B9 34 An cn (u32s zn) → Below wn.heap.size wn W → Calls Tryz.prog 54 #[.agg #[.bool g, .slice A xs.length c], .agg #[.bool (isNeg (-y)), .slice An zn.length cn]] W fun e w' => ZOut W w' (z - y) e) := fun zn An cn B9 wn W hW hz hr hnW => by
  have h9 := Zh.radd (h.next hW) ((Zn.shrink (K := J) hz hr (by rw [Int.natAbs_neg]; exact h2.lt)).next hnW).zh hK hJ
  rwa [← Int.sub_eq_add_neg] at h9
 clear h h2
 go_enter Tryz.func53, Tryz.ntmps53
 go_wp2_with fail
 obtain ⟨w0, hw0⟩ : ∃ w0, w0 = ((w.alloc (.cells #[.bool g, .slice A xs.length c] 25)).alloc (.cells #[.bool g2, .slice A2 ys.length c2] 25)).alloc (.cells #[.bool false, .slice none 0 0] 25) := ⟨_, rfl⟩
 rw [← hw0] at b0 b1 b2 k0 ⊢
 clear hw0
 have B0 := hi9 b0
 have B1 := hi9 b1
 have B2 := hi9 b2
 have K0 := hi9 k0
 have s0 : w.heap.size ≤ w0.heap.size := k0.size
 have n1 : w.heap.size ≠ w.heap.size + 1 + 1 := by omega
 have n2 : w.heap.size + 1 + 1 ≠ w.heap.size := by omega
 obtain ⟨p0, p1, _, _⟩ := b0.two
 obtain ⟨q0, q1, _, _⟩ := b1.two
 obtain ⟨r0, r1, r2, r3⟩ := b2.two
 clear b0 b1 b2 k0
 go_region_held3 (fun W => W.cell? ⟨w.heap.size, 0, none⟩ = some (.bool g) ∧ W.cell? ⟨w.heap.size, 1, none⟩ = some (.slice A xs.length c) ∧ W.cell? ⟨w.heap.size + 1, 0, none⟩ = some (.bool g2) ∧ W.cell? ⟨w.heap.size + 1, 1, none⟩ = some (.slice A2 ys.length c2)) (go_keep) (first
  | (go_at_call 52; (with_reducible refine (NG.out _ (bst K0.out (by repeat (first | exact br9 | exact jn | exact jm | apply bdw | (refine bdn ?_ _) | (refine bal ?_ nl9 _))) nl9)).mono ?_); rintro e wn ⟨zn, An, cn, rfl, hzn, hrn, hbn⟩; have jn : Below w0.heap.size w0 wn := bst (by repeat (first | exact br9 | exact jn | exact jm | apply bdw | (refine bdn ?_ _) | (refine bal ?_ nl9 _))) hbn nl9; obtain ⟨x0n, y0n, _, _⟩ := (B0.out.below jn B0.out.lt).two; obtain ⟨x1n, y1n, _, _⟩ := (B1.out.below jn B1.out.lt).two; obtain ⟨x2n, y2n, u2n, v2n⟩ := (B2.out.below jn B2.out.lt).two)
  | (go_at_call 54; (with_reducible refine (AD.out zn An cn _ wn _ (bst K0.out (by repeat (first | exact br9 | exact jn | exact jm | apply bdw | (refine bdn ?_ _) | (refine bal ?_ nl9 _))) nl9) hzn hrn (by first | exact br9 | exact bdw br9)).mono ?_); rintro e wm ⟨zm, Am, cm, rfl, hzm, hrm, hbm⟩; have jm : Below w0.heap.size w0 wm := bst (by repeat (first | exact br9 | exact jn | exact jm | apply bdw | (refine bdn ?_ _) | (refine bal ?_ nl9 _))) hbm nl9; obtain ⟨x0m, y0m, _, _⟩ := (B0.out.below jm B0.out.lt).two; obtain ⟨x1m, y1m, _, _⟩ := (B1.out.below jm B1.out.lt).two; obtain ⟨x2m, y2m, u2m, v2m⟩ := (B2.out.below jm B2.out.lt).two))
 all_goals
  go_wp2_with fail
  have hlo : w.heap.size ≤ wn.heap.size := Nat.le_trans s0 jn.size
  exact zretT (bst K0.out jm nl9) (B2.out.below jm B2.out.lt) (by omega) hzm (hrm.mono (by first | exact hlo | exact s0)) rfl rfl rfl rfl
set_option maxHeartbeats 1600000 in
theorem zsame_yes (b : Bool) (hr : Rd w w.heap.size A (u32s xs)) (hr2 : Rd w w.heap.size A2 (u32s xs)) (hm : xs.length ≤ 281474976710656) :
  Calls Tryz.prog 35 #[.agg #[.bool b, .slice A xs.length c], .agg #[.bool b, .slice A2 xs.length c2]] w fun e w' => e = .returned (.bool true) ∧ Below w.heap.size w w' := by
 have S1 : Hid (∀ W (_ : Below w.heap.size w W), Calls Tryz.prog 61 #[.slice A xs.length c, .slice A2 xs.length c2] W fun e w' => e = .returned (.bool true) ∧ Dr W w') := fun W hW => same_yes A A2 c c2 xs W W.heap.size ((hr.below hW).mono hW.size) ((hr2.below hW).mono hW.size) hm
 have tb : (b == b) = true := by simp
 clear hr hr2
 go_enter Tryz.func35, Tryz.ntmps35
 go_wp2_with fail
 refine (S1.out _ (bel_two _ _ _)).mono ?_
 rintro e w1 ⟨rfl, hd⟩
 go_wp2_with fail
 go_ret
 exact ⟨rfl, (bel_two _ _ _).trans (hd.below _)⟩
end
end
section
open Go.RowKit
end
section
open Go.RowKit
end
section
open Go.RowKit
end
section
open Go.RowKit
end
end Go.Proofs.YtcjgilagldbjnaaGreatDoor
