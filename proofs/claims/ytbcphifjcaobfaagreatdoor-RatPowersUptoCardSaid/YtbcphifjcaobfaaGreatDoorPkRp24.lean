/- The contracts of the reference's Sub, Cmp and Mul on integer. The contracts of zint's divide, by the signs and the kind of. -/
import Derived.Test.YtbcphifjcaobfaaGreatDoorPkRp23
import Derived.Test.YtbcphifjcaobfaaGreatDoorPkRp22
import Derived.Test.YtbcphifjcaobfaaGreatDoorPkRp17
import Derived.Test.YtbcphifjcaobfaaGreatDoorPkRp5
import Derived.Test.YtbcphifjcaobfaaGreatDoorPkRp9
import Derived.Deep.DeepCutAuto
namespace Go.Proofs.YtbcphifjcaobfaaGreatDoor
section
open Go.RowKit
section
variable {w : World} {g g2 : Bool} {A A2 : Option Addr} {c c2 K J : Nat} {xs ys : List Nat} {z y : Int}
set_option maxHeartbeats 3200000 in
theorem Zh.rsub (h : Zh w g A c xs z K) (h2 : Zh w g2 A2 c2 ys y J) (hK : K ≤ 67108863) (hJ : J ≤ 67108863) :
  Calls Tryz.prog 115 #[.agg #[.bool g, .slice A xs.length c], .agg #[.bool g2, .slice A2 ys.length c2]] w fun e w' => ZOut w w' (z - y) e := by
 obtain ⟨b0, b1, b2⟩ := blk_three w (.bool g) (.slice A xs.length c) (.bool g2) (.slice A2 ys.length c2) (.bool false) (.slice none 0 0)
 have k0 := bel_three w (.cells #[.bool g, .slice A xs.length c] 25) (.cells #[.bool g2, .slice A2 ys.length c2] 25) (.cells #[.bool false, .slice none 0 0] 25)
 have NG : Hid (∀ W (_ : Below w.heap.size w W), Calls Tryz.prog 86 #[.agg #[.bool g2, .slice A2 ys.length c2]] W fun e w' => ZOut W w' (-y) e) := fun W hW => (h2.next hW).rneg (by omega)
 have AD : Hid (∀ (zn : List Nat) (An : Option Addr) (cn B9 : Nat) (wn W : World), Below w.heap.size w W → Num 4294967296 zn (-y).natAbs → Res wn B9 50 An cn (u32s zn) → Below wn.heap.size wn W → Calls Tryz.prog 87 #[.agg #[.bool g, .slice A xs.length c], .agg #[.bool (isNeg (-y)), .slice An zn.length cn]] W fun e w' => ZOut W w' (z - y) e) := fun zn An cn B9 wn W hW hz hr hnW => by
  have h9 := Zh.radd (h.next hW) ((Zn.shrink (K := J) hz hr (by rw [Int.natAbs_neg]; exact h2.lt)).next hnW).zh hK hJ
  rwa [← Int.sub_eq_add_neg] at h9
 clear h h2
 go_enter Tryz.func115, Tryz.ntmps115
 go_wp2_with fail
 obtain ⟨w0, hw0⟩ : ∃ w0, w0 = ((w.alloc (.cells #[.bool g, .slice A xs.length c] 25)).alloc (.cells #[.bool g2, .slice A2 ys.length c2] 25)).alloc (.cells #[.bool false, .slice none 0 0] 25) := ⟨_, rfl⟩
 rw [← hw0] at b0 b1 b2 k0 ⊢
 clear hw0
 have B0 := hi9 b0
 have B1 := hi9 b1
 have B2 := hi9 b2
 have K0 := hi9 k0
 have s0 : w.heap.size ≤ w0.heap.size := k0.size
 have n1 : w.heap.size ≠ w.heap.size + 1 + 1 := by omega
 have n2 : w.heap.size + 1 + 1 ≠ w.heap.size := by omega
 obtain ⟨p0, p1, _, _⟩ := b0.two
 obtain ⟨q0, q1, _, _⟩ := b1.two
 obtain ⟨r0, r1, r2, r3⟩ := b2.two
 clear b0 b1 b2 k0
 go_region_held3 (fun W => W.cell? ⟨w.heap.size, 0, none⟩ = some (.bool g) ∧ W.cell? ⟨w.heap.size, 1, none⟩ = some (.slice A xs.length c) ∧ W.cell? ⟨w.heap.size + 1, 0, none⟩ = some (.bool g2) ∧ W.cell? ⟨w.heap.size + 1, 1, none⟩ = some (.slice A2 ys.length c2)) (go_keep) (first
  | (go_at_call 86; (with_reducible refine (NG.out _ (bst K0.out (by repeat (first | exact br9 | exact jn | exact jm | apply bdw | (refine bdn ?_ _) | (refine bal ?_ nl9 _))) nl9)).mono ?_); rintro e wn ⟨zn, An, cn, rfl, hzn, hrn, hbn⟩; have jn : Below w0.heap.size w0 wn := bst (by repeat (first | exact br9 | exact jn | exact jm | apply bdw | (refine bdn ?_ _) | (refine bal ?_ nl9 _))) hbn nl9; obtain ⟨x0n, y0n, _, _⟩ := (B0.out.below jn B0.out.lt).two; obtain ⟨x1n, y1n, _, _⟩ := (B1.out.below jn B1.out.lt).two; obtain ⟨x2n, y2n, u2n, v2n⟩ := (B2.out.below jn B2.out.lt).two)
  | (go_at_call 87; (with_reducible refine (AD.out zn An cn _ wn _ (bst K0.out (by repeat (first | exact br9 | exact jn | exact jm | apply bdw | (refine bdn ?_ _) | (refine bal ?_ nl9 _))) nl9) hzn hrn (by first | exact br9 | exact bdw br9)).mono ?_); rintro e wm ⟨zm, Am, cm, rfl, hzm, hrm, hbm⟩; have jm : Below w0.heap.size w0 wm := bst (by repeat (first | exact br9 | exact jn | exact jm | apply bdw | (refine bdn ?_ _) | (refine bal ?_ nl9 _))) hbm nl9; obtain ⟨x0m, y0m, _, _⟩ := (B0.out.below jm B0.out.lt).two; obtain ⟨x1m, y1m, _, _⟩ := (B1.out.below jm B1.out.lt).two; obtain ⟨x2m, y2m, u2m, v2m⟩ := (B2.out.below jm B2.out.lt).two))
 all_goals
  go_wp2_with fail
  have hlo : w.heap.size ≤ wn.heap.size := Nat.le_trans s0 jn.size
  exact zretT (bst K0.out jm nl9) (B2.out.below jm B2.out.lt) (by omega) hzm (hrm.mono (by first | exact hlo | exact s0)) rfl rfl rfl rfl
set_option maxHeartbeats 3200000 in
theorem Zh.rmul (h : Zh w g A c xs z K) (h2 : Zh w g2 A2 c2 ys y J) (hKJ : K + J ≤ 67108864) :
  Calls Tryz.prog 88 #[.agg #[.bool g, .slice A xs.length c], .agg #[.bool g2, .slice A2 ys.length c2]] w fun e w' => ZOut w w' (z * y) e := by
 obtain ⟨b0, b1, b2⟩ := blk_three w (.bool g) (.slice A xs.length c) (.bool g2) (.slice A2 ys.length c2) (.bool false) (.slice none 0 0)
 have k0 := bel_three w (.cells #[.bool g, .slice A xs.length c] 25) (.cells #[.bool g2, .slice A2 ys.length c2] 25) (.cells #[.bool false, .slice none 0 0] 25)
 have ML : Hid (∀ W (_ : Below w.heap.size w W), Calls Tryz.prog 122 #[.slice A xs.length c, .slice A2 ys.length c2] W fun e w' => NOut W w' (z.natAbs * y.natAbs) e) := fun W hW => (h.next hW).hv.rmul (h2.next hW).hv (by omega) (by omega)
 have HV : Hid ((z * y).natAbs = z.natAbs * y.natAbs) := Int.natAbs_mul z y
 have HS : Hid (ivalN (!(g == g2)) (z.natAbs * y.natAbs) = z * y) := by
  show _ = _
  rw [show (!(g == g2)) = (g != g2) from rfl, ← mul_ival, h.sg, h2.sg]
 have HSZ : Hid (z.natAbs * y.natAbs < 4294967296 ^ (K + J)) := prod_lt_pow9 h.lt h2.lt
 have NM : Hid (∀ (zs : List Nat) (As : Option Addr) (cs B9 : Nat) (wo W : World), Num 4294967296 zs (z.natAbs * y.natAbs) → Res wo B9 50 As cs (u32s zs) → Below wo.heap.size wo W → Calls Tryz.prog 113 #[.agg #[.bool (!(g == g2)), .slice As zs.length cs]] W fun e w' => ZOut W w' (z * y) e) := fun zs As cs B9 wo W hz hr hW => by
  have hv := (Hv.of (K := K + J) hz hr HSZ.out).next hW
  exact Zh.rnorm (K := K + J) ⟨by rw [HV.out]; exact hv, by rw [HV.out]; exact HS.out⟩ (by omega)
 clear h h2
 go_enter Tryz.func88, Tryz.ntmps88
 go_wp2_with fail
 obtain ⟨w0, hw0⟩ : ∃ w0, w0 = ((w.alloc (.cells #[.bool g, .slice A xs.length c] 25)).alloc (.cells #[.bool g2, .slice A2 ys.length c2] 25)).alloc (.cells #[.bool false, .slice none 0 0] 25) := ⟨_, rfl⟩
 rw [← hw0] at b0 b1 b2 k0 ⊢
 clear hw0
 have B0 := hi9 b0
 have B1 := hi9 b1
 have B2 := hi9 b2
 have K0 := hi9 k0
 have s0 : w.heap.size ≤ w0.heap.size := k0.size
 have n1 : w.heap.size ≠ w.heap.size + 1 + 1 := by omega
 have n2 : w.heap.size + 1 + 1 ≠ w.heap.size := by omega
 obtain ⟨p0, p1, _, _⟩ := b0.two
 obtain ⟨q0, q1, _, _⟩ := b1.two
 obtain ⟨r0, r1, r2, r3⟩ := b2.two
 clear b0 b1 b2 k0
 go_region_held3 (fun W => W.cell? ⟨w.heap.size, 0, none⟩ = some (.bool g) ∧ W.cell? ⟨w.heap.size, 1, none⟩ = some (.slice A xs.length c) ∧ W.cell? ⟨w.heap.size + 1, 0, none⟩ = some (.bool g2) ∧ W.cell? ⟨w.heap.size + 1, 1, none⟩ = some (.slice A2 ys.length c2)) (go_keep) (first
  | (go_at_call 122; (with_reducible refine (ML.out _ (bst K0.out (by repeat (first | exact br9 | exact js | exact jm | apply bdw | (refine bdn ?_ _) | (refine bal ?_ nl9 _))) nl9)).mono ?_); rintro e ws ⟨zs, As, cs, rfl, hzs, hrs, hbs⟩; have js : Below w0.heap.size w0 ws := bst (by repeat (first | exact br9 | exact js | exact jm | apply bdw | (refine bdn ?_ _) | (refine bal ?_ nl9 _))) hbs nl9; obtain ⟨x0s, y0s, _, _⟩ := (B0.out.below js B0.out.lt).two; obtain ⟨x1s, y1s, _, _⟩ := (B1.out.below js B1.out.lt).two; obtain ⟨x2s, y2s, u2s, v2s⟩ := (B2.out.below js B2.out.lt).two)
  | (go_at_call 113; (with_reducible refine (NM.out zs As cs _ ws _ hzs hrs (by first | exact br9 | exact bdw br9)).mono ?_); rintro e wm ⟨zm, Am, cm, rfl, hzm, hrm, hbm⟩; have jm : Below w0.heap.size w0 wm := bst (by repeat (first | exact br9 | exact js | exact jm | apply bdw | (refine bdn ?_ _) | (refine bal ?_ nl9 _))) hbm nl9; obtain ⟨x0m, y0m, _, _⟩ := (B0.out.below jm B0.out.lt).two; obtain ⟨x1m, y1m, _, _⟩ := (B1.out.below jm B1.out.lt).two; obtain ⟨x2m, y2m, u2m, v2m⟩ := (B2.out.below jm B2.out.lt).two))
 all_goals
  go_wp2_with fail
  have hlo : w.heap.size ≤ ws.heap.size := Nat.le_trans s0 js.size
  exact zretT (bst K0.out jm nl9) (B2.out.below jm B2.out.lt) (by omega) hzm (hrm.mono (by first | exact hlo | exact s0)) rfl rfl rfl rfl
set_option maxHeartbeats 1600000 in
theorem zsame_yes (b : Bool) (hr : Rd w w.heap.size A (u32s xs)) (hr2 : Rd w w.heap.size A2 (u32s xs)) (hm : xs.length ≤ 281474976710656) :
  Calls Tryz.prog 22 #[.agg #[.bool b, .slice A xs.length c], .agg #[.bool b, .slice A2 xs.length c2]] w fun e w' => e = .returned (.bool true) ∧ Below w.heap.size w w' := by
 have S1 : Hid (∀ W (_ : Below w.heap.size w W), Calls Tryz.prog 77 #[.slice A xs.length c, .slice A2 xs.length c2] W fun e w' => e = .returned (.bool true) ∧ Dr W w') := fun W hW => same_yes A A2 c c2 xs W W.heap.size ((hr.below hW).mono hW.size) ((hr2.below hW).mono hW.size) hm
 have tb : (b == b) = true := by simp
 clear hr hr2
 go_enter Tryz.func22, Tryz.ntmps22
 go_wp2_with fail
 refine (S1.out _ (bel_two _ _ _)).mono ?_
 rintro e w1 ⟨rfl, hd⟩
 go_wp2_with fail
 go_ret
 exact ⟨rfl, (bel_two _ _ _).trans (hd.below _)⟩
end
end
section
open Go.RowKit
def DivMid (w : World) (x0 y0 x1 y1 : Value) (gr : Bool) (q r : Nat) (v13 v14 : Value) (W : World) : Prop :=
 ∃ qs rs A5 c5 A7 c7 gt, v13 = .slice A5 qs.length c5 ∧ v14 = .pointer (some ⟨gt, 0, none⟩) ∧ w.heap.size + 3 < gt ∧ Num 4294967296 qs q ∧ Num 4294967296 rs r ∧ Res W w.heap.size 50 A5 c5 (u32s qs) ∧ Res W w.heap.size 50 A7 c7 (u32s rs) ∧
  Blk W gt 25 [.bool (gr && decide (0 < r)), .slice A7 rs.length c7] ∧ Blk W w.heap.size 25 [x0, y0] ∧ Blk W (w.heap.size + 1) 25 [x1, y1] ∧ Blk W (w.heap.size + 2) 25 [.bool false, .slice none 0 0] ∧ Blk W (w.heap.size + 3) 25 [.bool false, .slice none 0 0] ∧ Below w.heap.size w W
def ZQOut (w w' : World) (q r : Int) (e : Ending) : Prop := ∃ qs rs A1 c1 A3 c3, e = .returned (.tuple #[.agg #[.bool (isNeg q), .slice A1 qs.length c1], .agg #[.bool (isNeg r), .slice A3 rs.length c3], .int .i64 0]) ∧ Num 4294967296 qs q.natAbs ∧ Num 4294967296 rs r.natAbs ∧ Res w' w.heap.size 50 A1 c1 (u32s qs) ∧ Res w' w.heap.size 50 A3 c3 (u32s rs) ∧ Below w.heap.size w w'
def ZQErr (w w' : World) (e : Ending) : Prop := e = .returned (.tuple #[.agg #[.bool false, .slice none 0 0], .agg #[.bool false, .slice none 0 0], .int .i64 5]) ∧ Below w.heap.size w w'
theorem Hv.divN {w : World} {A A2 : Option Addr} {c c2 n k K J : Nat} {xs ys : List Nat} (h : Hv w A c xs n K) (h2 : Hv w A2 c2 ys k J) (hK : K ≤ 67108864) (hJ : J ≤ 67108864) :
  Calls Tryz.prog 125 #[.slice A xs.length c, .slice A2 ys.length c2] w fun e w' => DivOut w w' n k e := by
 have hl1 := h.len
 have hl2 := h2.len
 have t2 := trimL_length_le ys
 have h9 := div_any quotient_all A A2 c c2 xs ys w w.heap.size h.rd h2.rd nl9 h.dig h2.dig h.cap h2.cap (by omega) (by omega) (by show _ ≤ _; omega)
 rwa [h.val_, h2.val_] at h9
section
variable {w : World} {g g2 : Bool} {A A2 : Option Addr} {c c2 K J : Nat} {xs ys : List Nat} {z y : Int}
set_option maxHeartbeats 1600000 in
theorem divide_nought (kind : Int) (h : Zh w g A c xs z K) (h2 : Zh w g2 A2 c2 ys 0 J) (hK : K ≤ 67108864) (hJ : J ≤ 67108864) :
  Calls Tryz.prog 107 #[.agg #[.bool g, .slice A xs.length c], .agg #[.bool g2, .slice A2 ys.length c2], .int .i64 kind] w fun e w' => ZQErr w w' e := by
 have D1 : Hid (∀ W (_ : Below w.heap.size w W), Calls Tryz.prog 125 #[.slice A xs.length c, .slice A2 ys.length c2] W fun e w' => DivOut W w' z.natAbs 0 e) := fun W hW => Hv.divN (h.hv.next hW) (h2.hv.next hW) hK hJ
 clear h h2
 obtain ⟨b0, b1, b2, b3⟩ := blk_four w (.bool g) (.slice A xs.length c) (.bool g2) (.slice A2 ys.length c2) (.bool false) (.slice none 0 0) (.bool false) (.slice none 0 0)
 have k0 := bel_four w (.cells #[.bool g, .slice A xs.length c] 25) (.cells #[.bool g2, .slice A2 ys.length c2] 25) (.cells #[.bool false, .slice none 0 0] 25) (.cells #[.bool false, .slice none 0 0] 25)
 go_enter Tryz.func107, Tryz.ntmps107
 go_wp2_with fail
 refine (D1.out _ k0).mono ?_
 rintro e w1 ⟨qs, rs, A1, c1, A3, c3, rfl, _, _, _, _, hb1⟩
 rw [if_pos rfl]
 have k1 := bst k0 hb1 nl9
 have b2' := b2.below hb1 b2.lt
 have b3' := b3.below hb1 b3.lt
 obtain ⟨p0, p1, p2, p3⟩ := b2'.two
 obtain ⟨q0, q1, q2, q3⟩ := b3'.two
 clear b0 b1 b2 b3
 go_wp2_with fail
 have b4 := blk_pair b2' (.bool false) (.slice none 0 0)
 have b5 := (b4.far (p := ⟨w.heap.size + 3, 0, none⟩) (by show w.heap.size + 2 ≠ w.heap.size + 3; omega) (.bool false)).far (p := ⟨w.heap.size + 3, 1, none⟩) (by show w.heap.size + 2 ≠ w.heap.size + 3; omega) (.slice none 0 0)
 have b6 := blk_pair ((b3'.far (p := ⟨w.heap.size + 2, 0, none⟩) (by show w.heap.size + 3 ≠ w.heap.size + 2; omega) (.bool false)).far (p := ⟨w.heap.size + 2, 1, none⟩) (by show w.heap.size + 3 ≠ w.heap.size + 2; omega) (.slice none 0 0)) (.bool false) (.slice none 0 0)
 exact bodyPost_ret (results_zzs rfl rfl rfl b5 b6) rfl ⟨rfl, bsc (bsc (bsc (bsc k1 (by omega) _) (by omega) _) (by omega) _) (by omega) _⟩
end
end
end Go.Proofs.YtbcphifjcaobfaaGreatDoor
