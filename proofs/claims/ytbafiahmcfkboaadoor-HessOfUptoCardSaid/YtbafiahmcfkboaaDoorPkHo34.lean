/- The contracts of the reference's Sub, Cmp and Mul on integers, of Same on equal ones, of Copy. Conditions: at most 2^26 limbs. What a function answers that holds its results in cells and slots. No conditions. The contracts of zint's Sign, Cmp, Of and of what a division does with its remainder. Conditions: at most 2^26 limbs. The contracts of zint's divide, by the signs and the kind of the division. Conditions: at most 2^26 limbs. The contracts of zint's divide, by the signs and the kind of the division (A). Conditions: at most 2^26 limbs. The contracts of zint's divide, by the signs and the kind of the division (B). Conditions: at most 2^26 limbs. The contracts of zint's divide, by the signs and the kind of the division (C). Conditions: at most 2^26 limbs. -/
import Derived.Test.YtbafiahmcfkboaaDoorPkHo33
import Derived.Test.YtbafiahmcfkboaaDoorPkHo31
import Derived.Test.YtbafiahmcfkboaaDoorPkHo30
import Derived.Test.YtbafiahmcfkboaaDoorPkHo21
import Derived.Test.YtbafiahmcfkboaaDoorPkHo23
import Derived.Test.YtbafiahmcfkboaaDoorPkHo26
import Derived.Deep.DeepCutAuto
namespace Go.Proofs.YtbafiahmcfkboaaDoor
section
open Go.RowKit

section
variable {w : World} {g g2 : Bool} {A A2 : Option Addr} {c c2 K J : Nat} {xs ys : List Nat} {z y : Int}

set_option maxHeartbeats 3200000 in
theorem Zh.rsub (h : Zh w g A c xs z K) (h2 : Zh w g2 A2 c2 ys y J) (hK : K ≤ 67108863) (hJ : J ≤ 67108863) :
    Calls Tryd.prog 56 #[.agg #[.bool g, .slice A xs.length c], .agg #[.bool g2, .slice A2 ys.length c2]] w fun e w' => ZOut w w' (z - y) e := by
  obtain ⟨b0, b1, b2⟩ := blk_three w (.bool g) (.slice A xs.length c) (.bool g2) (.slice A2 ys.length c2) (.bool false) (.slice none 0 0)
  have k0 := bel_three w (.cells #[.bool g, .slice A xs.length c] 51) (.cells #[.bool g2, .slice A2 ys.length c2] 51) (.cells #[.bool false, .slice none 0 0] 51)
  have NG : Hid (∀ W (_ : Below w.heap.size w W), Calls Tryd.prog 54 #[.agg #[.bool g2, .slice A2 ys.length c2]] W fun e w' => ZOut W w' (-y) e) := fun W hW => (h2.next hW).rneg (by omega)
  have AD : Hid (∀ (zn : List Nat) (An : Option Addr) (cn B9 : Nat) (wn W : World), Below w.heap.size w W → Num 4294967296 zn (-y).natAbs → Res9z wn B9 24 An cn (u32s zn) → Below wn.heap.size wn W → Calls Tryd.prog 57 #[.agg #[.bool g, .slice A xs.length c], .agg #[.bool (isNeg (-y)), .slice An zn.length cn]] W fun e w' => ZOut W w' (z - y) e) := fun zn An cn B9 wn W hW hz hr hnW => by
    have h9 := Zh.radd (h.next hW) ((Zn.shrink (K := J) hz hr (by rw [Int.natAbs_neg]; exact h2.lt)).next hnW).zh hK hJ
    rwa [← Int.sub_eq_add_neg] at h9
  clear h h2
  go_enter Tryd.func56, Tryd.ntmps56
  go_wp2_with fail
  obtain ⟨w0, hw0⟩ : ∃ w0, w0 = ((w.alloc (.cells #[.bool g, .slice A xs.length c] 51)).alloc (.cells #[.bool g2, .slice A2 ys.length c2] 51)).alloc (.cells #[.bool false, .slice none 0 0] 51) := ⟨_, rfl⟩
  rw [← hw0] at b0 b1 b2 k0 ⊢
  clear hw0
  have B0 := Lib.hid b0
  have B1 := Lib.hid b1
  have B2 := Lib.hid b2
  have K0 := Lib.hid k0
  have s0 : w.heap.size ≤ w0.heap.size := k0.size
  have n1 : w.heap.size ≠ w.heap.size + 1 + 1 := by omega
  have n2 : w.heap.size + 1 + 1 ≠ w.heap.size := by omega
  obtain ⟨p0, p1, _, _⟩ := b0.two
  obtain ⟨q0, q1, _, _⟩ := b1.two
  obtain ⟨r0, r1, r2, r3⟩ := b2.two
  clear b0 b1 b2 k0
  go_region_held3 (fun W => W.cell? ⟨w.heap.size, 0, none⟩ = some (.bool g) ∧ W.cell? ⟨w.heap.size, 1, none⟩ = some (.slice A xs.length c) ∧ W.cell? ⟨w.heap.size + 1, 0, none⟩ = some (.bool g2) ∧ W.cell? ⟨w.heap.size + 1, 1, none⟩ = some (.slice A2 ys.length c2)) (go_keep) (first
    | (go_at_call 54; (with_reducible refine (NG.out _ (bst K0.out (by repeat (first | exact Below.refl _ _ | exact jn | exact jm | apply bdw | (refine bdn ?_ _) | (refine bal ?_ (Nat.le_refl _) _))) (Nat.le_refl _))).mono ?_); rintro e wn ⟨zn, An, cn, rfl, hzn, hrn, hbn⟩; have jn : Below w0.heap.size w0 wn := bst (by repeat (first | exact Below.refl _ _ | exact jn | exact jm | apply bdw | (refine bdn ?_ _) | (refine bal ?_ (Nat.le_refl _) _))) hbn (Nat.le_refl _); obtain ⟨x0n, y0n, _, _⟩ := (B0.out.below jn B0.out.lt).two; obtain ⟨x1n, y1n, _, _⟩ := (B1.out.below jn B1.out.lt).two; obtain ⟨x2n, y2n, u2n, v2n⟩ := (B2.out.below jn B2.out.lt).two)
    | (go_at_call 57; (with_reducible refine (AD.out zn An cn _ wn _ (bst K0.out (by repeat (first | exact Below.refl _ _ | exact jn | exact jm | apply bdw | (refine bdn ?_ _) | (refine bal ?_ (Nat.le_refl _) _))) (Nat.le_refl _)) hzn hrn (by first | exact Below.refl _ _ | exact bdw (Below.refl _ _))).mono ?_); rintro e wm ⟨zm, Am, cm, rfl, hzm, hrm, hbm⟩; have jm : Below w0.heap.size w0 wm := bst (by repeat (first | exact Below.refl _ _ | exact jn | exact jm | apply bdw | (refine bdn ?_ _) | (refine bal ?_ (Nat.le_refl _) _))) hbm (Nat.le_refl _); obtain ⟨x0m, y0m, _, _⟩ := (B0.out.below jm B0.out.lt).two; obtain ⟨x1m, y1m, _, _⟩ := (B1.out.below jm B1.out.lt).two; obtain ⟨x2m, y2m, u2m, v2m⟩ := (B2.out.below jm B2.out.lt).two))
  all_goals
    go_wp2_with fail
    have hlo : w.heap.size ≤ wn.heap.size := Nat.le_trans s0 jn.size
    exact zretT (bst K0.out jm (Nat.le_refl _)) (B2.out.below jm B2.out.lt) (by omega) hzm (hrm.mono (by first | exact hlo | exact s0)) rfl rfl rfl rfl

end
end
section
open Go.RowKit

section
variable {w : World} {p q r u g g2 g3 : Nat} {x y x2 y2 x3 y3 : Value} {fn : Func} {tmps : Array Value}
theorem lvz (h : Blk w g 51 [x, y]) : (loadVar 51 ⟨g, 0, none⟩).run Tryd.prog w = .ok (.agg #[x, y]) w :=
  run_loadVar_row w g 51 51 #[x, y] (0, 0) _ h Tryd.underlying51 rfl (by kernel_rfl)
theorem results_zz (h : fn.results = #[.cell p 51, .cell q 51]) (hp : tmps.getD p undef = .pointer (some ⟨g, 0, none⟩)) (hq : tmps.getD q undef = .pointer (some ⟨g2, 0, none⟩)) (hb : Blk w g 51 [x, y]) (hb2 : Blk w g2 51 [x2, y2]) :
    (results fn tmps).run Tryd.prog w = .ok (.tuple #[.agg #[x, y], .agg #[x2, y2]]) w := by
  have hp' : tmps[p]?.getD undef = .pointer (some ⟨g, 0, none⟩) := by simpa using hp
  have hq' : tmps[q]?.getD undef = .pointer (some ⟨g2, 0, none⟩) := by simpa using hq
  simp [results, h, hp', hq', asAddr, lvz hb, lvz hb2]
end
end
section
open Go.RowKit
end
section
open Go.RowKit
end
section
open Go.RowKit
end
section
open Go.RowKit
end
section
open Go.RowKit
end
end Go.Proofs.YtbafiahmcfkboaaDoor
