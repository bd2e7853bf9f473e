/- The contracts of the reference's Sub, Cmp and Mul on integers, of Same on equal ones, of Copy. Conditions: at most 2^26 limbs. What a function answers that holds its results in cells and slots. No conditions. The contracts of zint's Sign, Cmp, Of and of what a division does with its remainder. Conditions: at most 2^26 limbs. The contracts of zint's divide, by the signs and the kind of the division. Conditions: at most 2^26 limbs. -/
import Derived.Test.YtcfalkcceanldaaGreatDoorPkPo33
import Derived.Test.YtcfalkcceanldaaGreatDoorPkPo31
import Derived.Test.YtcfalkcceanldaaGreatDoorPkPo28
import Derived.Test.YtcfalkcceanldaaGreatDoorPkPo30
import Derived.Test.YtcfalkcceanldaaGreatDoorPkPo13
import Derived.Test.YtcfalkcceanldaaGreatDoorPkPo17
import Derived.Test.YtcfalkcceanldaaGreatDoorPkPo21
import Derived.Deep.DeepCutAuto
namespace Go.Proofs.YtcfalkcceanldaaGreatDoor
section
open Go.RowKit

section
variable {w : World} {g g2 : Bool} {A A2 : Option Addr} {c c2 K J : Nat} {xs ys : List Nat} {z y : Int}

set_option maxHeartbeats 3200000 in
theorem Zh.rsub (h : Zh w g A c xs z K) (h2 : Zh w g2 A2 c2 ys y J) (hK : K ≤ 67108863) (hJ : J ≤ 67108863) :
    Calls Tryz.prog 58 #[.agg #[.bool g, .slice A xs.length c], .agg #[.bool g2, .slice A2 ys.length c2]] w fun e w' => ZOut w w' (z - y) e := by
  obtain ⟨b0, b1, b2⟩ := blk_three w (.bool g) (.slice A xs.length c) (.bool g2) (.slice A2 ys.length c2) (.bool false) (.slice none 0 0)
  have k0 := bel_three w (.cells #[.bool g, .slice A xs.length c] 25) (.cells #[.bool g2, .slice A2 ys.length c2] 25) (.cells #[.bool false, .slice none 0 0] 25)
  have NG : Hid (∀ W (_ : Below w.heap.size w W), Calls Tryz.prog 57 #[.agg #[.bool g2, .slice A2 ys.length c2]] W fun e w' => ZOut W w' (-y) e) := fun W hW => (h2.next hW).rneg (by omega)
  have AD : Hid (∀ (zn : List Nat) (An : Option Addr) (cn B9 : Nat) (wn W : World), Below w.heap.size w W → Num 4294967296 zn (-y).natAbs → Res wn B9 28 An cn (u32s zn) → Below wn.heap.size wn W → Calls Tryz.prog 59 #[.agg #[.bool g, .slice A xs.length c], .agg #[.bool (isNeg (-y)), .slice An zn.length cn]] W fun e w' => ZOut W w' (z - y) e) := fun zn An cn B9 wn W hW hz hr hnW => by
    have h9 := Zh.radd (h.next hW) ((Zn.shrink (K := J) hz hr (by rw [Int.natAbs_neg]; exact h2.lt)).next hnW).zh hK hJ
    rwa [← Int.sub_eq_add_neg] at h9
  clear h h2
  go_enter Tryz.func58, Tryz.ntmps58
  go_wp2_with fail
  obtain ⟨w0, hw0⟩ : ∃ w0, w0 = ((w.alloc (.cells #[.bool g, .slice A xs.length c] 25)).alloc (.cells #[.bool g2, .slice A2 ys.length c2] 25)).alloc (.cells #[.bool false, .slice none 0 0] 25) := ⟨_, rfl⟩
  rw [← hw0] at b0 b1 b2 k0 ⊢
  clear hw0
  have B0 := Lib.hid b0
  have B1 := Lib.hid b1
  have B2 := Lib.hid b2
  have K0 := Lib.hid k0
  have s0 : w.heap.size ≤ w0.heap.size := k0.size
  have n1 : w.heap.size ≠ w.heap.size + 1 + 1 := by omega
  have n2 : w.heap.size + 1 + 1 ≠ w.heap.size := by omega
  obtain ⟨p0, p1, _, _⟩ := b0.two
  obtain ⟨q0, q1, _, _⟩ := b1.two
  obtain ⟨r0, r1, r2, r3⟩ := b2.two
  clear b0 b1 b2 k0
  go_region_held3 (fun W => W.cell? ⟨w.heap.size, 0, none⟩ = some (.bool g) ∧ W.cell? ⟨w.heap.size, 1, none⟩ = some (.slice A xs.length c) ∧ W.cell? ⟨w.heap.size + 1, 0, none⟩ = some (.bool g2) ∧ W.cell? ⟨w.heap.size + 1, 1, none⟩ = some (.slice A2 ys.length c2)) (go_keep) (first
    | (go_at_call 57; (with_reducible refine (NG.out _ (bst K0.out (by repeat (first | exact Below.refl _ _ | exact jn | exact jm | apply bdw | (refine bdn ?_ _) | (refine bal ?_ (Nat.le_refl _) _))) (Nat.le_refl _))).mono ?_); rintro e wn ⟨zn, An, cn, rfl, hzn, hrn, hbn⟩; have jn : Below w0.heap.size w0 wn := bst (by repeat (first | exact Below.refl _ _ | exact jn | exact jm | apply bdw | (refine bdn ?_ _) | (refine bal ?_ (Nat.le_refl _) _))) hbn (Nat.le_refl _); obtain ⟨x0n, y0n, _, _⟩ := (B0.out.below jn B0.out.lt).two; obtain ⟨x1n, y1n, _, _⟩ := (B1.out.below jn B1.out.lt).two; obtain ⟨x2n, y2n, u2n, v2n⟩ := (B2.out.below jn B2.out.lt).two)
    | (go_at_call 59; (with_reducible refine (AD.out zn An cn _ wn _ (bst K0.out (by repeat (first | exact Below.refl _ _ | exact jn | exact jm | apply bdw | (refine bdn ?_ _) | (refine bal ?_ (Nat.le_refl _) _))) (Nat.le_refl _)) hzn hrn (by first | exact Below.refl _ _ | exact bdw (Below.refl _ _))).mono ?_); rintro e wm ⟨zm, Am, cm, rfl, hzm, hrm, hbm⟩; have jm : Below w0.heap.size w0 wm := bst (by repeat (first | exact Below.refl _ _ | exact jn | exact jm | apply bdw | (refine bdn ?_ _) | (refine bal ?_ (Nat.le_refl _) _))) hbm (Nat.le_refl _); obtain ⟨x0m, y0m, _, _⟩ := (B0.out.below jm B0.out.lt).two; obtain ⟨x1m, y1m, _, _⟩ := (B1.out.below jm B1.out.lt).two; obtain ⟨x2m, y2m, u2m, v2m⟩ := (B2.out.below jm B2.out.lt).two))
  all_goals
    go_wp2_with fail
    have hlo : w.heap.size ≤ wn.heap.size := Nat.le_trans s0 jn.size
    exact zretT (bst K0.out jm (Nat.le_refl _)) (B2.out.below jm B2.out.lt) (by omega) hzm (hrm.mono (by first | exact hlo | exact s0)) rfl rfl rfl rfl

set_option maxHeartbeats 3200000 in
theorem Zh.rmul (h : Zh w g A c xs z K) (h2 : Zh w g2 A2 c2 ys y J) (hKJ : K + J ≤ 67108864) :
    Calls Tryz.prog 67 #[.agg #[.bool g, .slice A xs.length c], .agg #[.bool g2, .slice A2 ys.length c2]] w fun e w' => ZOut w w' (z * y) e := by
  obtain ⟨b0, b1, b2⟩ := blk_three w (.bool g) (.slice A xs.length c) (.bool g2) (.slice A2 ys.length c2) (.bool false) (.slice none 0 0)
  have k0 := bel_three w (.cells #[.bool g, .slice A xs.length c] 25) (.cells #[.bool g2, .slice A2 ys.length c2] 25) (.cells #[.bool false, .slice none 0 0] 25)
  have ML : Hid (∀ W (_ : Below w.heap.size w W), Calls Tryz.prog 84 #[.slice A xs.length c, .slice A2 ys.length c2] W fun e w' => NOut W w' (z.natAbs * y.natAbs) e) := fun W hW => (h.next hW).hv.rmul (h2.next hW).hv (by omega) (by omega)
  have HV : Hid ((z * y).natAbs = z.natAbs * y.natAbs) := Int.natAbs_mul z y
  have HS : Hid (ivalN (!(g == g2)) (z.natAbs * y.natAbs) = z * y) := by
    show _ = _
    rw [show (!(g == g2)) = (g != g2) from rfl, ← mul_ival, h.sg, h2.sg]
  have HSZ : Hid (z.natAbs * y.natAbs < 4294967296 ^ (K + J)) := prod_lt_pow9 h.lt h2.lt
  have NM : Hid (∀ (zs : List Nat) (As : Option Addr) (cs B9 : Nat) (wo W : World), Num 4294967296 zs (z.natAbs * y.natAbs) → Res wo B9 28 As cs (u32s zs) → Below wo.heap.size wo W → Calls Tryz.prog 55 #[.agg #[.bool (!(g == g2)), .slice As zs.length cs]] W fun e w' => ZOut W w' (z * y) e) := fun zs As cs B9 wo W hz hr hW => by
    have hv := (Hv.of (K := K + J) hz hr HSZ.out).next hW
    exact Zh.rnorm (K := K + J) ⟨by rw [HV.out]; exact hv, by rw [HV.out]; exact HS.out⟩ (by omega)
  clear h h2
  go_enter Tryz.func67, Tryz.ntmps67
  go_wp2_with fail
  obtain ⟨w0, hw0⟩ : ∃ w0, w0 = ((w.alloc (.cells #[.bool g, .slice A xs.length c] 25)).alloc (.cells #[.bool g2, .slice A2 ys.length c2] 25)).alloc (.cells #[.bool false, .slice none 0 0] 25) := ⟨_, rfl⟩
  rw [← hw0] at b0 b1 b2 k0 ⊢
  clear hw0
  have B0 := Lib.hid b0
  have B1 := Lib.hid b1
  have B2 := Lib.hid b2
  have K0 := Lib.hid k0
  have s0 : w.heap.size ≤ w0.heap.size := k0.size
  have n1 : w.heap.size ≠ w.heap.size + 1 + 1 := by omega
  have n2 : w.heap.size + 1 + 1 ≠ w.heap.size := by omega
  obtain ⟨p0, p1, _, _⟩ := b0.two
  obtain ⟨q0, q1, _, _⟩ := b1.two
  obtain ⟨r0, r1, r2, r3⟩ := b2.two
  clear b0 b1 b2 k0
  go_region_held3 (fun W => W.cell? ⟨w.heap.size, 0, none⟩ = some (.bool g) ∧ W.cell? ⟨w.heap.size, 1, none⟩ = some (.slice A xs.length c) ∧ W.cell? ⟨w.heap.size + 1, 0, none⟩ = some (.bool g2) ∧ W.cell? ⟨w.heap.size + 1, 1, none⟩ = some (.slice A2 ys.length c2)) (go_keep) (first
    | (go_at_call 84; (with_reducible refine (ML.out _ (bst K0.out (by repeat (first | exact Below.refl _ _ | exact js | exact jm | apply bdw | (refine bdn ?_ _) | (refine bal ?_ (Nat.le_refl _) _))) (Nat.le_refl _))).mono ?_); rintro e ws ⟨zs, As, cs, rfl, hzs, hrs, hbs⟩; have js : Below w0.heap.size w0 ws := bst (by repeat (first | exact Below.refl _ _ | exact js | exact jm | apply bdw | (refine bdn ?_ _) | (refine bal ?_ (Nat.le_refl _) _))) hbs (Nat.le_refl _); obtain ⟨x0s, y0s, _, _⟩ := (B0.out.below js B0.out.lt).two; obtain ⟨x1s, y1s, _, _⟩ := (B1.out.below js B1.out.lt).two; obtain ⟨x2s, y2s, u2s, v2s⟩ := (B2.out.below js B2.out.lt).two)
    | (go_at_call 55; (with_reducible refine (NM.out zs As cs _ ws _ hzs hrs (by first | exact Below.refl _ _ | exact bdw (Below.refl _ _))).mono ?_); rintro e wm ⟨zm, Am, cm, rfl, hzm, hrm, hbm⟩; have jm : Below w0.heap.size w0 wm := bst (by repeat (first | exact Below.refl _ _ | exact js | exact jm | apply bdw | (refine bdn ?_ _) | (refine bal ?_ (Nat.le_refl _) _))) hbm (Nat.le_refl _); obtain ⟨x0m, y0m, _, _⟩ := (B0.out.below jm B0.out.lt).two; obtain ⟨x1m, y1m, _, _⟩ := (B1.out.below jm B1.out.lt).two; obtain ⟨x2m, y2m, u2m, v2m⟩ := (B2.out.below jm B2.out.lt).two))
  all_goals
    go_wp2_with fail
    have hlo : w.heap.size ≤ ws.heap.size := Nat.le_trans s0 js.size
    exact zretT (bst K0.out jm (Nat.le_refl _)) (B2.out.below jm B2.out.lt) (by omega) hzm (hrm.mono (by first | exact hlo | exact s0)) rfl rfl rfl rfl

end
end
section
open Go.RowKit

section
variable {w : World} {p q r u g g2 g3 : Nat} {x y x2 y2 x3 y3 : Value} {fn : Func} {tmps : Array Value}
theorem lvz (h : Blk w g 25 [x, y]) : (loadVar 25 ⟨g, 0, none⟩).run Tryz.prog w = .ok (.agg #[x, y]) w :=
  run_loadVar_row w g 25 25 #[x, y] (0, 0) _ h Tryz.underlying25 rfl (by kernel_rfl)
theorem results_zs (h : fn.results = #[.cell p 25, .tmp u]) (hp : tmps.getD p undef = .pointer (some ⟨g, 0, none⟩)) (hb : Blk w g 25 [x, y]) :
    (results fn tmps).run Tryz.prog w = .ok (.tuple #[.agg #[x, y], tmps.getD u undef]) w := by
  have hp' : tmps[p]?.getD undef = .pointer (some ⟨g, 0, none⟩) := by simpa using hp
  simp [results, h, hp', asAddr, lvz hb]
theorem results_sz (h : fn.results = #[.tmp u, .cell p 25]) (hp : tmps.getD p undef = .pointer (some ⟨g, 0, none⟩)) (hb : Blk w g 25 [x, y]) :
    (results fn tmps).run Tryz.prog w = .ok (.tuple #[tmps.getD u undef, .agg #[x, y]]) w := by
  have hp' : tmps[p]?.getD undef = .pointer (some ⟨g, 0, none⟩) := by simpa using hp
  simp [results, h, hp', asAddr, lvz hb]
theorem results_zz (h : fn.results = #[.cell p 25, .cell q 25]) (hp : tmps.getD p undef = .pointer (some ⟨g, 0, none⟩)) (hq : tmps.getD q undef = .pointer (some ⟨g2, 0, none⟩)) (hb : Blk w g 25 [x, y]) (hb2 : Blk w g2 25 [x2, y2]) :
    (results fn tmps).run Tryz.prog w = .ok (.tuple #[.agg #[x, y], .agg #[x2, y2]]) w := by
  have hp' : tmps[p]?.getD undef = .pointer (some ⟨g, 0, none⟩) := by simpa using hp
  have hq' : tmps[q]?.getD undef = .pointer (some ⟨g2, 0, none⟩) := by simpa using hq
  simp [results, h, hp', hq', asAddr, lvz hb, lvz hb2]
theorem results_zzs (h : fn.results = #[.cell p 25, .cell q 25, .tmp u]) (hp : tmps.getD p undef = .pointer (some ⟨g, 0, none⟩)) (hq : tmps.getD q undef = .pointer (some ⟨g2, 0, none⟩)) (hb : Blk w g 25 [x, y]) (hb2 : Blk w g2 25 [x2, y2]) :
    (results fn tmps).run Tryz.prog w = .ok (.tuple #[.agg #[x, y], .agg #[x2, y2], tmps.getD u undef]) w := by
  have hp' : tmps[p]?.getD undef = .pointer (some ⟨g, 0, none⟩) := by simpa using hp
  have hq' : tmps[q]?.getD undef = .pointer (some ⟨g2, 0, none⟩) := by simpa using hq
  simp [results, h, hp', hq', asAddr, lvz hb, lvz hb2]
theorem results_zzz (h : fn.results = #[.cell p 25, .cell q 25, .cell r 25]) (hp : tmps.getD p undef = .pointer (some ⟨g, 0, none⟩)) (hq : tmps.getD q undef = .pointer (some ⟨g2, 0, none⟩)) (hr : tmps.getD r undef = .pointer (some ⟨g3, 0, none⟩)) (hb : Blk w g 25 [x, y]) (hb2 : Blk w g2 25 [x2, y2]) (hb3 : Blk w g3 25 [x3, y3]) :
    (results fn tmps).run Tryz.prog w = .ok (.tuple #[.agg #[x, y], .agg #[x2, y2], .agg #[x3, y3]]) w := by
  have hp' : tmps[p]?.getD undef = .pointer (some ⟨g, 0, none⟩) := by simpa using hp
  have hq' : tmps[q]?.getD undef = .pointer (some ⟨g2, 0, none⟩) := by simpa using hq
  have hr' : tmps[r]?.getD undef = .pointer (some ⟨g3, 0, none⟩) := by simpa using hr
  simp [results, h, hp', hq', hr', asAddr, lvz hb, lvz hb2, lvz hb3]
end
end
section
open Go.RowKit

theorem sg_neg {g : Bool} {z : Int} (h : ivalN g z.natAbs = z) (h0 : z ≠ 0) : g = isNeg z := by
  have h1 := isNeg_ival g z.natAbs
  rw [h] at h1
  have : decide (0 < z.natAbs) = true := decide_eq_true (by omega)
  rw [this, Bool.and_true] at h1
  exact h1.symm
section
variable {w w' : World} {g g2 : Bool} {A A2 : Option Addr} {c c2 K J : Nat} {xs ys : List Nat} {z y : Int}
set_option maxHeartbeats 1600000 in
theorem Zh.sign (h : Zh w g A c xs z K) (hK : K ≤ 67108864) : Calls Tryz.prog 14 #[.agg #[.bool g, .slice A xs.length c]] w fun e w' => e = .returned (.int .i64 z.sign) ∧ Below w.heap.size w w' := by
  have Z1 : Hid (∀ W (_ : Below w.heap.size w W), Calls Tryz.prog 30 #[.agg #[.bool g, .slice A xs.length c]] W fun e w' => e = .returned (.bool (decide (z = 0))) ∧ Below W.heap.size W w') := fun W hW => (h.next hW).isZero hK
  have hs := h.sg
  clear h
  by_cases h0 : z = 0
  · rw [decide_eq_true h0] at Z1
    rw [h0, show Int.sign 0 = 0 from rfl]
    clear hs h0
    go_enter Tryz.func14, Tryz.ntmps14
    go_wp2_with fail
    refine (Z1.out _ (bel_one _ _)).mono ?_
    rintro e w1 ⟨rfl, hb⟩
    go_wp2_with fail
    go_ret
    exact ⟨rfl, bst (bel_one _ _) hb (Nat.le_refl _)⟩
  · have hg := sg_neg hs h0
    rw [decide_eq_false h0] at Z1
    cases g
    · have e1 : z.sign = 1 := Int.sign_eq_one_of_pos (by simp [isNeg] at hg; omega)
      rw [e1]
      clear hs h0 hg e1
      go_enter Tryz.func14, Tryz.ntmps14
      go_wp2_with fail
      refine (Z1.out _ (bel_one _ _)).mono ?_
      rintro e w1 ⟨rfl, hb⟩
      obtain ⟨q0, q1, q2, q3⟩ := ((Blk.new_ (w := w) (t := 25) (cs := #[.bool false, .slice A xs.length c]) (vs := [.bool false, .slice A xs.length c]) rfl).below hb (by simp)).two
      go_wp2_with fail
      go_ret
      exact ⟨rfl, bst (bel_one _ _) hb (Nat.le_refl _)⟩
    · have e1 : z.sign = -1 := Int.sign_eq_neg_one_of_neg (by simp [isNeg] at hg; omega)
      rw [e1]
      clear hs h0 hg e1
      go_enter Tryz.func14, Tryz.ntmps14
      go_wp2_with fail
      refine (Z1.out _ (bel_one _ _)).mono ?_
      rintro e w1 ⟨rfl, hb⟩
      obtain ⟨q0, q1, q2, q3⟩ := ((Blk.new_ (w := w) (t := 25) (cs := #[.bool true, .slice A xs.length c]) (vs := [.bool true, .slice A xs.length c]) rfl).below hb (by simp)).two
      go_wp2_with fail
      go_ret
      exact ⟨rfl, bst (bel_one _ _) hb (Nat.le_refl _)⟩
theorem sign_cases (z : Int) : (z = 0 ∧ z.sign = 0) ∨ (z < 0 ∧ z.sign = -1) ∨ (0 < z ∧ z.sign = 1) := by
  rcases Int.lt_trichotomy z 0 with h | h | h
  · exact Or.inr (Or.inl ⟨h, Int.sign_eq_neg_one_of_neg h⟩)
  · exact Or.inl ⟨h, by rw [h]; rfl⟩
  · exact Or.inr (Or.inr ⟨h, Int.sign_eq_one_of_pos h⟩)
theorem cmp_sign {z y : Int} (h : z.sign = y.sign) : z.sign * cmpN z.natAbs y.natAbs = (z - y).sign := by
  unfold cmpN
  rcases sign_cases z with ⟨a, b⟩ | ⟨a, b⟩ | ⟨a, b⟩ <;> rcases sign_cases y with ⟨d, e⟩ | ⟨d, e⟩ | ⟨d, e⟩ <;> rcases sign_cases (z - y) with ⟨f, k⟩ | ⟨f, k⟩ | ⟨f, k⟩ <;> rw [k] <;> rw [b] at h ⊢ <;> rw [e] at h <;> first | (exfalso; omega) | (split <;> (try split) <;> omega)
end


/-- What is told of a quotient and a remainder, by sizes. -/
def PairOut (B : Nat) (w w' : World) (gr : Bool) (q r : Nat) (e : Ending) : Prop := ∃ qs rs A1 c1 A3 c3, e = .returned (.tuple #[.slice A1 qs.length c1, .agg #[.bool (gr && decide (0 < r)), .slice A3 rs.length c3]]) ∧ Num 4294967296 qs q ∧ Num 4294967296 rs r ∧ Res w' B 28 A1 c1 (u32s qs) ∧ Res w' B 28 A3 c3 (u32s rs) ∧ Below w.heap.size w w'
section
variable {w : World} {B : Nat} {A1 A3 A5 : Option Addr} {c1 c3 c5 q r b K : Nat} {qs rs bs : List Nat}

set_option maxHeartbeats 1600000 in
theorem whole_any (hq : Num 4294967296 qs q) (hr : Num 4294967296 rs r) (hresq : Res w B 28 A1 c1 (u32s qs)) (hresr : Res w B 28 A3 c3 (u32s rs)) (n5 : Nat) :
    Calls Tryz.prog 76 #[.agg #[.slice A1 qs.length c1, .slice A3 rs.length c3, .slice A5 n5 c5]] w fun e w' => PairOut B w w' false q r e := by
  have M1 : Hid (∀ W, Calls Tryz.prog 33 #[.bool false, .slice A3 rs.length c3] W fun e w' => e = .returned (.agg #[.bool (false && decide (0 < r)), .slice A3 rs.length c3]) ∧ Below W.heap.size W w') := fun W => by
    have h := made_any false A3 rs.length c3 W (res_len hresr)
    rwa [num_pos hr] at h
  have hl3 : w.heap.size < w.heap.size + 1 + 1 := by omega
  have hn1 : w.heap.size + 1 ≠ w.heap.size := by omega
  have hn2 : w.heap.size ≠ w.heap.size + 1 := by omega
  obtain ⟨v, hv⟩ : ∃ v, v = (false && decide (0 < r)) := ⟨_, rfl⟩
  rw [← hv] at M1
  have Hv := Lib.hid hv
  have Hq := Lib.hid hq
  have Hr := Lib.hid hr
  have Hresq := Lib.hid hresq
  have Hresr := Lib.hid hresr
  clear hv hq hr hresq hresr
  go_enter Tryz.func76, Tryz.ntmps76
  go_wp2_with fail
  go_region_held3 (fun W => W.cell? ⟨w.heap.size, 0, none⟩ = some (.slice A1 qs.length c1) ∧ W.cell? ⟨w.heap.size, 1, none⟩ = some (.slice A3 rs.length c3)) (go_keep) (first
    | (go_at_call 33; (with_reducible refine (M1.out _).mono ?_); rintro e w1 ⟨rfl, hb⟩; obtain ⟨hc, hf⟩ := bcell hb; have q2 : w.heap.size + 1 < w1.heap.size := Nat.lt_of_lt_of_le (Nat.lt_succ_self _) (show w.heap.size + 1 + 1 ≤ w1.heap.size by simpa using hb.size); have q1 : w.heap.size < w1.heap.size := Nat.lt_of_succ_lt q2))
  all_goals
    have k1 : Below w.heap.size w w1 := bst (by first | exact bel_two _ _ _ | exact (bel_two _ _ _).trans (((Dr.refl _).step _).below _)) hb (Nat.le_refl _)
    have hB : Blk w1 (w.heap.size + 1) 25 [.bool false, .slice none 0 0] := by first | exact (blk_res1 w _ _ _).below hb (by simp) | exact ((blk_res1 w _ _ _).drewN _).below hb (by simp) | exact (blk_res1 w _ _ _).drew.below hb (by simp)
    have hB2 := blk_pair hB (.bool v) (.slice A3 rs.length c3)
    go_wp2_with fail
    have k3 := bsc (i := 1) (bsc (g := w.heap.size + 1) (i := 0) k1 (by omega) (.bool v)) (by omega : w.heap.size ≤ w.heap.size + 1) (.slice A3 rs.length c3)
    exact bodyPost_ret (results_sz rfl rfl hB2) rfl ⟨qs, rs, A1, c1, A3, c3, by rw [← Hv.out]; rfl, Hq.out, Hr.out, Hresq.out.below k3 (Nat.le_refl _), Hresr.out.below k3 (Nat.le_refl _), k3⟩

set_option maxHeartbeats 1600000 in
theorem mirrored_any (hq : Num 4294967296 qs q) (hr : Num 4294967296 rs r) (hresq : Res w B 28 A1 c1 (u32s qs)) (hresr : Res w B 28 A3 c3 (u32s rs)) (n5 : Nat) :
    Calls Tryz.prog 77 #[.agg #[.slice A1 qs.length c1, .slice A3 rs.length c3, .slice A5 n5 c5]] w fun e w' => PairOut B w w' true q r e := by
  have M1 : Hid (∀ W, Calls Tryz.prog 33 #[.bool true, .slice A3 rs.length c3] W fun e w' => e = .returned (.agg #[.bool (true && decide (0 < r)), .slice A3 rs.length c3]) ∧ Below W.heap.size W w') := fun W => by
    have h := made_any true A3 rs.length c3 W (res_len hresr)
    rwa [num_pos hr] at h
  have hl3 : w.heap.size < w.heap.size + 1 + 1 := by omega
  have hn1 : w.heap.size + 1 ≠ w.heap.size := by omega
  have hn2 : w.heap.size ≠ w.heap.size + 1 := by omega
  obtain ⟨v, hv⟩ : ∃ v, v = (true && decide (0 < r)) := ⟨_, rfl⟩
  rw [← hv] at M1
  have Hv := Lib.hid hv
  have Hq := Lib.hid hq
  have Hr := Lib.hid hr
  have Hresq := Lib.hid hresq
  have Hresr := Lib.hid hresr
  clear hv hq hr hresq hresr
  go_enter Tryz.func77, Tryz.ntmps77
  go_wp2_with fail
  go_region_held3 (fun W => W.cell? ⟨w.heap.size, 0, none⟩ = some (.slice A1 qs.length c1) ∧ W.cell? ⟨w.heap.size, 1, none⟩ = some (.slice A3 rs.length c3)) (go_keep) (first
    | (go_at_call 33; (with_reducible refine (M1.out _).mono ?_); rintro e w1 ⟨rfl, hb⟩; obtain ⟨hc, hf⟩ := bcell hb; have q2 : w.heap.size + 1 < w1.heap.size := Nat.lt_of_lt_of_le (Nat.lt_succ_self _) (show w.heap.size + 1 + 1 ≤ w1.heap.size by simpa using hb.size); have q1 : w.heap.size < w1.heap.size := Nat.lt_of_succ_lt q2))
  all_goals
    have k1 : Below w.heap.size w w1 := bst (by first | exact bel_two _ _ _ | exact (bel_two _ _ _).trans (((Dr.refl _).step _).below _)) hb (Nat.le_refl _)
    have hB : Blk w1 (w.heap.size + 1) 25 [.bool false, .slice none 0 0] := by first | exact (blk_res1 w _ _ _).below hb (by simp) | exact ((blk_res1 w _ _ _).drewN _).below hb (by simp) | exact (blk_res1 w _ _ _).drew.below hb (by simp)
    have hB2 := blk_pair hB (.bool v) (.slice A3 rs.length c3)
    go_wp2_with fail
    have k3 := bsc (i := 1) (bsc (g := w.heap.size + 1) (i := 0) k1 (by omega) (.bool v)) (by omega : w.heap.size ≤ w.heap.size + 1) (.slice A3 rs.length c3)
    exact bodyPost_ret (results_sz rfl rfl hB2) rfl ⟨qs, rs, A1, c1, A3, c3, by rw [← Hv.out]; rfl, Hq.out, Hr.out, Hresq.out.below k3 (Nat.le_refl _), Hresr.out.below k3 (Nat.le_refl _), k3⟩

set_option maxHeartbeats 3200000 in
theorem lifted_any (hq : Num 4294967296 qs q) (hr : Num 4294967296 rs r) (hresq : Res w B 28 A1 c1 (u32s qs)) (hresr : Res w B 28 A3 c3 (u32s rs)) (hb : Hv w A5 c5 bs b K) (hrb : r < b) (hqK : qs.length ≤ K) (hK : K ≤ 67108864) (hBw : B ≤ w.heap.size) :
    Calls Tryz.prog 78 #[.agg #[.slice A1 qs.length c1, .slice A3 rs.length c3, .slice A5 bs.length c5]] w fun e w' => PairOut B w w' false (if r = 0 then q else q + 1) (if r = 0 then 0 else b - r) e := by
  have hn1 : w.heap.size + 1 ≠ w.heap.size := by omega
  have hn2 : w.heap.size ≠ w.heap.size + 1 := by omega
  by_cases h0 : r = 0
  · subst h0
    obtain rfl := (hr.nil_iff (by omega)).2 rfl
    have Hq := Lib.hid hq
    have Hresq := Lib.hid hresq
    clear hq hr hresq hresr hb hrb
    rw [if_pos rfl, if_pos rfl]
    go_enter Tryz.func78, Tryz.ntmps78
    go_wp2
    have k1 := bel_two w (.cells #[.slice A1 qs.length c1, .slice A3 0 c3, .slice A5 bs.length c5] 101) (.cells #[.bool false, .slice none 0 0] 25)
    have hB2 := blk_res1 w (.cells #[.slice A1 qs.length c1, .slice A3 0 c3, .slice A5 bs.length c5] 101) (.bool false) (.slice none 0 0)
    exact bodyPost_ret (results_sz rfl rfl hB2) rfl ⟨qs, [], A1, c1, none, 0, rfl, Hq.out, Num.zero_ _, Hresq.out.below k1 (Nat.le_refl _), Res.none_, k1⟩
  · have hrn : rs ≠ [] := fun e => h0 ((hr.nil_iff (by omega)).1 e)
    have hl0 : 0 < rs.length := List.length_pos_iff.2 hrn
    have t1 : ((rs.length : Int) == 0) = false := by simpa using hrn
    have hlr : rs.length ≤ bs.length := by
      have h1 := hr.ge hrn
      have h2 := val_lt _ _ hb.dig
      rw [hb.val_] at h2
      rcases Nat.lt_or_ge bs.length rs.length with h3 | h3
      · have h4 : 4294967296 ^ bs.length ≤ 4294967296 ^ (rs.length - 1) := Nat.pow_le_pow_right (by omega) (by omega)
        omega
      · exact h3
    have hR : Hv w A3 c3 rs r K := ⟨hr.1, hr.2.2, hresr.rd, by have := hresr.1; rwa [u32s_length] at this, Nat.le_trans hlr hb.len⟩
    have hQ : Hv w A1 c1 qs q K := ⟨hq.1, hq.2.2, hresq.rd, by have := hresq.1; rwa [u32s_length] at this, hqK⟩
    have S1 : Hid (∀ W (_ : Below w.heap.size w W), Calls Tryz.prog 95 #[.slice A5 bs.length c5, .slice A3 rs.length c3] W fun e w' => SubOut W w' b r e) := fun W hW => Hv.subN (hb.next hW) (hR.next hW) hK hK
    have hlt : ¬ b < r := by omega
    rw [if_neg h0, if_neg h0]
    have HQ := Lib.hid hQ
    clear hq hr hresq hresr hb hrb hR hQ hrn hlr
    go_enter Tryz.func78, Tryz.ntmps78
    go_wp2_with fail
    refine (S1.out _ (bel_two _ _ _)).mono ?_
    rintro e w1 ⟨ds, A7, c7, rfl, hds, hresd, hb1⟩
    rw [if_neg hlt]
    have k1 := bst (bel_two w _ _) hb1 (Nat.le_refl _)
    have hD1 := (((Blk.new_ (w := w) (t := 101) (cs := #[.slice A1 qs.length c1, .slice A3 rs.length c3, .slice A5 bs.length c5]) (vs := [.slice A1 qs.length c1, .slice A3 rs.length c3, .slice A5 bs.length c5]) rfl).heapAlloc (.cells #[.bool false, .slice none 0 0] 25)).below hb1 (by simp <;> omega))
    have hB1 := (blk_res1 w (.cells #[.slice A1 qs.length c1, .slice A3 rs.length c3, .slice A5 bs.length c5] 101) (.bool false) (.slice none 0 0)).below hb1 (by simp <;> omega)
    have hz1 := hb1.size
    simp at hz1
    have q1 : w.heap.size < w1.heap.size := by omega
    have q2 : w.heap.size + 1 < w1.heap.size := by omega
    have g0 : w1.cell? ⟨w.heap.size, 0, none⟩ = some (.slice A1 qs.length c1) := hD1.cell 0
    have Hds := Lib.hid hds
    have Hresd := Lib.hid hresd
    have O1 : Hid (∀ W, Calls Tryz.prog 46 #[.int .u64 1] W fun e w' => NOut W w' 1 e) := fun W => of_any 1 (by omega) W
    clear hds hresd hz1
    have AD : Hid (∀ (zo : List Nat) (Ao : Option Addr) (co : Nat) (B9 : Nat) (wo W : World), Below w1.heap.size w1 W → Num 4294967296 zo 1 → Res wo B9 28 Ao co (u32s zo) → Below wo.heap.size wo W → Calls Tryz.prog 96 #[.slice A1 qs.length c1, .slice Ao zo.length co] W fun e w' => NOut W w' (q + 1) e) := fun zo Ao co B9 wo W hW hzo hro hoW => Hv.addN (HQ.out.next (bst k1 hW (Nat.le_refl _))) ((Hv.of (K := 1) hzo hro (by decide)).next hoW) hK (by omega)
    have M1 : Hid (∀ W, Calls Tryz.prog 33 #[.bool false, .slice A7 ds.length c7] W fun e w' => e = .returned (.agg #[.bool false, .slice A7 ds.length c7]) ∧ Below W.heap.size W w') := fun W => made_any false A7 ds.length c7 W (res_len Hresd.out)
    go_wp2_with fail
    go_region_held3 (fun W => W.cell? ⟨w.heap.size, 0, none⟩ = some (.slice A1 qs.length c1)) (go_keep) (first
      | (go_at_call 46; (with_reducible refine (O1.out _).mono ?_); rintro e wo ⟨zo, Ao, co, rfl, hzo, hro, hbo⟩; have jo : Below w1.heap.size w1 wo := bst (by first | exact Below.refl _ _ | exact bdw (Below.refl _ _) | exact jo | exact bdw jo | exact bdn jo _ | exact ja | exact bdw ja | exact bdn ja _ | exact jm | exact bdw jm | exact bdn jm _ | exact bdn (Below.refl _ _) _) hbo (Nat.le_refl _); have so := jo.size; have q1o : w.heap.size < wo.heap.size := Nat.lt_of_lt_of_le q1 so; have q2o : w.heap.size + 1 < wo.heap.size := Nat.lt_of_lt_of_le q2 so; have g0o : wo.cell? ⟨w.heap.size, 0, none⟩ = some (.slice A1 qs.length c1) := (jo.cell (p := ⟨w.heap.size, 0, none⟩) q1).trans g0; obtain ⟨x0o, x1o, x2o, x3o⟩ := (hB1.below jo hB1.lt).two)
      | (go_at_call 96; (with_reducible refine (AD.out zo Ao co _ wo _ (by first | exact Below.refl _ _ | exact bdw (Below.refl _ _) | exact jo | exact bdw jo | exact bdn jo _ | exact ja | exact bdw ja | exact bdn ja _ | exact jm | exact bdw jm | exact bdn jm _ | exact bdn (Below.refl _ _) _) hzo hro (by first | exact Below.refl _ _ | exact bdw (Below.refl _ _) | exact hbm | exact bdw hbm)).mono ?_); rintro e wa ⟨za, Aa, ca, rfl, hza, hra, hba⟩; have ja : Below w1.heap.size w1 wa := bst (by first | exact Below.refl _ _ | exact bdw (Below.refl _ _) | exact jo | exact bdw jo | exact bdn jo _ | exact ja | exact bdw ja | exact bdn ja _ | exact jm | exact bdw jm | exact bdn jm _ | exact bdn (Below.refl _ _) _) hba (Nat.le_refl _); have sa := ja.size; have q1a : w.heap.size < wa.heap.size := Nat.lt_of_lt_of_le q1 sa; have q2a : w.heap.size + 1 < wa.heap.size := Nat.lt_of_lt_of_le q2 sa; have g0a : wa.cell? ⟨w.heap.size, 0, none⟩ = some (.slice A1 qs.length c1) := (ja.cell (p := ⟨w.heap.size, 0, none⟩) q1).trans g0; obtain ⟨x0a, x1a, x2a, x3a⟩ := (hB1.below ja hB1.lt).two)
      | (go_at_call 33; (with_reducible refine (M1.out _).mono ?_); rintro e wm ⟨rfl, hbm⟩; have jm : Below w1.heap.size w1 wm := bst (by first | exact Below.refl _ _ | exact bdw (Below.refl _ _) | exact jo | exact bdw jo | exact bdn jo _ | exact ja | exact bdw ja | exact bdn ja _ | exact jm | exact bdw jm | exact bdn jm _ | exact bdn (Below.refl _ _) _) hbm (Nat.le_refl _); have sm := jm.size; have q1m : w.heap.size < wm.heap.size := Nat.lt_of_lt_of_le q1 sm; have q2m : w.heap.size + 1 < wm.heap.size := Nat.lt_of_lt_of_le q2 sm; have g0m : wm.cell? ⟨w.heap.size, 0, none⟩ = some (.slice A1 qs.length c1) := (jm.cell (p := ⟨w.heap.size, 0, none⟩) q1).trans g0; obtain ⟨x0m, x1m, x2m, x3m⟩ := (hB1.below jm hB1.lt).two))
    have hsz : w.heap.size + 1 < ((w.alloc (.cells #[.slice A1 qs.length c1, .slice A3 rs.length c3, .slice A5 bs.length c5] 101)).alloc (.cells #[.bool false, .slice none 0 0] 25)).heap.size := by simp
    have hsz2 : B ≤ ((w.alloc (.cells #[.slice A1 qs.length c1, .slice A3 rs.length c3, .slice A5 bs.length c5] 101)).alloc (.cells #[.bool false, .slice none 0 0] 25)).heap.size := by simp; omega
    have e0 : (false && decide (0 < b - r)) = false := rfl
    all_goals
      go_wp2_with fail
      have J9 : ∀ X : World, Below w1.heap.size w1 X → Blk ((X.setCell ⟨w.heap.size + 1, 0, none⟩ (.bool false)).setCell ⟨w.heap.size + 1, 1, none⟩ (.slice A7 ds.length c7)) (w.heap.size + 1) 25 [.bool false, .slice A7 ds.length c7] ∧ Res ((X.setCell ⟨w.heap.size + 1, 0, none⟩ (.bool false)).setCell ⟨w.heap.size + 1, 1, none⟩ (.slice A7 ds.length c7)) B 28 A7 c7 (u32s ds) ∧ Below w.heap.size w ((X.setCell ⟨w.heap.size + 1, 0, none⟩ (.bool false)).setCell ⟨w.heap.size + 1, 1, none⟩ (.slice A7 ds.length c7)) := fun X hX =>
        ⟨blk_pair (hB1.below hX hB1.lt) _ _, (((Hresd.out.below hX (Nat.le_refl _)).set_ (p := ⟨w.heap.size + 1, 0, none⟩) hsz _).set_ (p := ⟨w.heap.size + 1, 1, none⟩) hsz _).mono hsz2, bsc (bsc (bst k1 hX (Nat.le_refl _)) (by omega) _) (by omega) _⟩
      have J8 : ∀ (X : World) (B' : Nat), w.heap.size + 1 < B' → Res X B' 28 Aa ca (u32s za) → Res ((X.setCell ⟨w.heap.size + 1, 0, none⟩ (.bool false)).setCell ⟨w.heap.size + 1, 1, none⟩ (.slice A7 ds.length c7)) B 28 Aa ca (u32s za) := fun X B' hX hR => ((hR.set_ (p := ⟨w.heap.size + 1, 0, none⟩) hX _).set_ (p := ⟨w.heap.size + 1, 1, none⟩) hX _).mono (by omega)
      first
        | exact bodyPost_ret (results_sz rfl rfl (J9 wm jm).1) rfl ⟨za, ds, Aa, ca, A7, c7, rfl, hza, Hds.out, J8 wm _ (by first | exact q2o | exact q2m) (hra.below hbm (Nat.le_refl _)), (J9 wm jm).2.1, (J9 wm jm).2.2⟩
        | exact bodyPost_ret (results_sz rfl rfl (J9 wa ja).1) rfl ⟨za, ds, Aa, ca, A7, c7, rfl, hza, Hds.out, J8 wa _ (by first | exact q2o | exact q2m) hra, (J9 wa ja).2.1, (J9 wa ja).2.2⟩
        | exact bodyPost_ret (results_sz rfl rfl (J9 wm.drew (bdw jm)).1) rfl ⟨za, ds, Aa, ca, A7, c7, rfl, hza, Hds.out, J8 _ _ (by first | exact q2o | exact q2m) (hra.below (bdw hbm) (Nat.le_refl _)), (J9 _ (bdw jm)).2.1, (J9 _ (bdw jm)).2.2⟩

end
end
section
open Go.RowKit

/-- Where divide stands when the quotient and the remainder are told by sizes. -/
def DivMid (w : World) (x0 y0 x1 y1 : Value) (gr : Bool) (q r : Nat) (v13 v14 : Value) (W : World) : Prop :=
  ∃ qs rs A5 c5 A7 c7 gt, v13 = .slice A5 qs.length c5 ∧ v14 = .pointer (some ⟨gt, 0, none⟩) ∧ w.heap.size + 3 < gt ∧ Num 4294967296 qs q ∧ Num 4294967296 rs r ∧ Res W w.heap.size 28 A5 c5 (u32s qs) ∧ Res W w.heap.size 28 A7 c7 (u32s rs) ∧
    Blk W gt 25 [.bool (gr && decide (0 < r)), .slice A7 rs.length c7] ∧ Blk W w.heap.size 25 [x0, y0] ∧ Blk W (w.heap.size + 1) 25 [x1, y1] ∧ Blk W (w.heap.size + 2) 25 [.bool false, .slice none 0 0] ∧ Blk W (w.heap.size + 3) 25 [.bool false, .slice none 0 0] ∧ Below w.heap.size w W
/-- A quotient that is raised where something is left, and what is then left. -/
def upQ (m k : Nat) : Nat := if m % k = 0 then m / k else m / k + 1
def upR (m k : Nat) : Nat := if m % k = 0 then 0 else k - m % k
/-- What a division of integers answers. -/
def ZQOut (w w' : World) (q r : Int) (e : Ending) : Prop := ∃ qs rs A1 c1 A3 c3, e = .returned (.tuple #[.agg #[.bool (isNeg q), .slice A1 qs.length c1], .agg #[.bool (isNeg r), .slice A3 rs.length c3], .int .i64 0]) ∧ Num 4294967296 qs q.natAbs ∧ Num 4294967296 rs r.natAbs ∧ Res w' w.heap.size 28 A1 c1 (u32s qs) ∧ Res w' w.heap.size 28 A3 c3 (u32s rs) ∧ Below w.heap.size w w'
/-- What a division by nought answers. -/
def ZQErr (w w' : World) (e : Ending) : Prop := e = .returned (.tuple #[.agg #[.bool false, .slice none 0 0], .agg #[.bool false, .slice none 0 0], .int .i64 5]) ∧ Below w.heap.size w w'
theorem Hv.divN {w : World} {A A2 : Option Addr} {c c2 n k K J : Nat} {xs ys : List Nat} (h : Hv w A c xs n K) (h2 : Hv w A2 c2 ys k J) (hK : K ≤ 67108864) (hJ : J ≤ 67108864) :
    Calls Tryz.prog 75 #[.slice A xs.length c, .slice A2 ys.length c2] w fun e w' => DivOut w w' n k e := by
  have hl1 := h.len
  have hl2 := h2.len
  have t2 := trimL_length_le ys
  have h9 := div_any quotient_all A A2 c c2 xs ys w w.heap.size h.rd h2.rd (Nat.le_refl _) h.dig h2.dig h.cap h2.cap (by omega) (by omega) (by show _ ≤ _; omega)
  rwa [h.val_, h2.val_] at h9
section
variable {w : World} {g g2 : Bool} {A A2 : Option Addr} {c c2 K J : Nat} {xs ys : List Nat} {z y : Int}
set_option maxHeartbeats 1600000 in
theorem divide_nought (kind : Int) (h : Zh w g A c xs z K) (h2 : Zh w g2 A2 c2 ys 0 J) (hK : K ≤ 67108864) (hJ : J ≤ 67108864) :
    Calls Tryz.prog 53 #[.agg #[.bool g, .slice A xs.length c], .agg #[.bool g2, .slice A2 ys.length c2], .int .i64 kind] w fun e w' => ZQErr w w' e := by
  have D1 : Hid (∀ W (_ : Below w.heap.size w W), Calls Tryz.prog 75 #[.slice A xs.length c, .slice A2 ys.length c2] W fun e w' => DivOut W w' z.natAbs 0 e) := fun W hW => Hv.divN (h.hv.next hW) (h2.hv.next hW) hK hJ
  clear h h2
  obtain ⟨b0, b1, b2, b3⟩ := blk_four w (.bool g) (.slice A xs.length c) (.bool g2) (.slice A2 ys.length c2) (.bool false) (.slice none 0 0) (.bool false) (.slice none 0 0)
  have k0 := bel_four w (.cells #[.bool g, .slice A xs.length c] 25) (.cells #[.bool g2, .slice A2 ys.length c2] 25) (.cells #[.bool false, .slice none 0 0] 25) (.cells #[.bool false, .slice none 0 0] 25)
  go_enter Tryz.func53, Tryz.ntmps53
  go_wp2_with fail
  refine (D1.out _ k0).mono ?_
  rintro e w1 ⟨qs, rs, A1, c1, A3, c3, rfl, _, _, _, _, hb1⟩
  rw [if_pos rfl]
  have k1 := bst k0 hb1 (Nat.le_refl _)
  have b2' := b2.below hb1 b2.lt
  have b3' := b3.below hb1 b3.lt
  obtain ⟨p0, p1, p2, p3⟩ := b2'.two
  obtain ⟨q0, q1, q2, q3⟩ := b3'.two
  clear b0 b1 b2 b3
  go_wp2_with fail
  have b4 := blk_pair b2' (.bool false) (.slice none 0 0)
  have b5 := (b4.far (p := ⟨w.heap.size + 3, 0, none⟩) (by show w.heap.size + 2 ≠ w.heap.size + 3; omega) (.bool false)).far (p := ⟨w.heap.size + 3, 1, none⟩) (by show w.heap.size + 2 ≠ w.heap.size + 3; omega) (.slice none 0 0)
  have b6 := blk_pair ((b3'.far (p := ⟨w.heap.size + 2, 0, none⟩) (by show w.heap.size + 3 ≠ w.heap.size + 2; omega) (.bool false)).far (p := ⟨w.heap.size + 2, 1, none⟩) (by show w.heap.size + 3 ≠ w.heap.size + 2; omega) (.slice none 0 0)) (.bool false) (.slice none 0 0)
  exact bodyPost_ret (results_zzs rfl rfl rfl b5 b6) rfl ⟨rfl, bsc (bsc (bsc (bsc k1 (by omega) _) (by omega) _) (by omega) _) (by omega) _⟩
end
end
end Go.Proofs.YtcfalkcceanldaaGreatDoor
