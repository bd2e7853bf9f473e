/- The contracts of the reference's Sub, Cmp and Mul on integers, of Same on equal ones, of Copy. Conditions: at most 2^26 limbs. What a function answers that holds its results in cells and slots. No conditions. crt.Lift and the reference's: the signed lift of a value below its modulus. Conditions: the numbers' sizes. The walk of CrtLifts: true. Conditions: the numbers' sizes; what awake answers. -/
import Derived.Test.YtadpelhmjmamnaaGreatDoorPkCf34
import Derived.Test.YtadpelhmjmamnaaGreatDoorPkCf33
import Derived.Test.YtadpelhmjmamnaaGreatDoorPkCf30
import Derived.Test.YtadpelhmjmamnaaGreatDoorPkCf32
import Derived.Deep.RegionHeld3
namespace Go.Proofs.YtadpelhmjmamnaaGreatDoor
section
open Go.RowKit

section
variable {w : World} {g g2 : Bool} {A A2 : Option Addr} {c c2 K J : Nat} {xs ys : List Nat} {z y : Int}

set_option maxHeartbeats 3200000 in
theorem Zh.rsub (h : Zh w g A c xs z K) (h2 : Zh w g2 A2 c2 ys y J) (hK : K ≤ 67108863) (hJ : J ≤ 67108863) :
    Calls Tryz.prog 49 #[.agg #[.bool g, .slice A xs.length c], .agg #[.bool g2, .slice A2 ys.length c2]] w fun e w' => ZOut w w' (z - y) e := by
  obtain ⟨b0, b1, b2⟩ := blk_three w (.bool g) (.slice A xs.length c) (.bool g2) (.slice A2 ys.length c2) (.bool false) (.slice none 0 0)
  have k0 := bel_three w (.cells #[.bool g, .slice A xs.length c] 37) (.cells #[.bool g2, .slice A2 ys.length c2] 37) (.cells #[.bool false, .slice none 0 0] 37)
  have NG : Hid (∀ W (_ : Below w.heap.size w W), Calls Tryz.prog 85 #[.agg #[.bool g2, .slice A2 ys.length c2]] W fun e w' => ZOut W w' (-y) e) := fun W hW => (h2.next hW).rneg (by omega)
  have AD : Hid (∀ (zn : List Nat) (An : Option Addr) (cn B9 : Nat) (wn W : World), Below w.heap.size w W → Num 4294967296 zn (-y).natAbs → Res wn B9 27 An cn (u32s zn) → Below wn.heap.size wn W → Calls Tryz.prog 92 #[.agg #[.bool g, .slice A xs.length c], .agg #[.bool (isNeg (-y)), .slice An zn.length cn]] W fun e w' => ZOut W w' (z - y) e) := fun zn An cn B9 wn W hW hz hr hnW => by
    have h9 := Zh.radd (h.next hW) ((Zn.shrink (K := J) hz hr (by rw [Int.natAbs_neg]; exact h2.lt)).next hnW).zh hK hJ
    rwa [← Int.sub_eq_add_neg] at h9
  clear h h2
  go_enter Tryz.func49, Tryz.ntmps49
  go_wp2_with fail
  obtain ⟨w0, hw0⟩ : ∃ w0, w0 = ((w.alloc (.cells #[.bool g, .slice A xs.length c] 37)).alloc (.cells #[.bool g2, .slice A2 ys.length c2] 37)).alloc (.cells #[.bool false, .slice none 0 0] 37) := ⟨_, rfl⟩
  rw [← hw0] at b0 b1 b2 k0 ⊢
  clear hw0
  have B0 := Lib.hid b0
  have B1 := Lib.hid b1
  have B2 := Lib.hid b2
  have K0 := Lib.hid k0
  have s0 : w.heap.size ≤ w0.heap.size := k0.size
  have n1 : w.heap.size ≠ w.heap.size + 1 + 1 := by omega
  have n2 : w.heap.size + 1 + 1 ≠ w.heap.size := by omega
  obtain ⟨p0, p1, _, _⟩ := b0.two
  obtain ⟨q0, q1, _, _⟩ := b1.two
  obtain ⟨r0, r1, r2, r3⟩ := b2.two
  clear b0 b1 b2 k0
  go_region_held3 (fun W => W.cell? ⟨w.heap.size, 0, none⟩ = some (.bool g) ∧ W.cell? ⟨w.heap.size, 1, none⟩ = some (.slice A xs.length c) ∧ W.cell? ⟨w.heap.size + 1, 0, none⟩ = some (.bool g2) ∧ W.cell? ⟨w.heap.size + 1, 1, none⟩ = some (.slice A2 ys.length c2)) (go_keep) (first
    | (go_at_call 85; (with_reducible refine (NG.out _ (bst K0.out (by repeat (first | exact Below.refl _ _ | exact jn | exact jm | apply bdw | (refine bdn ?_ _) | (refine bal ?_ (Nat.le_refl _) _))) (Nat.le_refl _))).mono ?_); rintro e wn ⟨zn, An, cn, rfl, hzn, hrn, hbn⟩; have jn : Below w0.heap.size w0 wn := bst (by repeat (first | exact Below.refl _ _ | exact jn | exact jm | apply bdw | (refine bdn ?_ _) | (refine bal ?_ (Nat.le_refl _) _))) hbn (Nat.le_refl _); obtain ⟨x0n, y0n, _, _⟩ := (B0.out.below jn B0.out.lt).two; obtain ⟨x1n, y1n, _, _⟩ := (B1.out.below jn B1.out.lt).two; obtain ⟨x2n, y2n, u2n, v2n⟩ := (B2.out.below jn B2.out.lt).two)
    | (go_at_call 92; (with_reducible refine (AD.out zn An cn _ wn _ (bst K0.out (by repeat (first | exact Below.refl _ _ | exact jn | exact jm | apply bdw | (refine bdn ?_ _) | (refine bal ?_ (Nat.le_refl _) _))) (Nat.le_refl _)) hzn hrn (by first | exact Below.refl _ _ | exact bdw (Below.refl _ _))).mono ?_); rintro e wm ⟨zm, Am, cm, rfl, hzm, hrm, hbm⟩; have jm : Below w0.heap.size w0 wm := bst (by repeat (first | exact Below.refl _ _ | exact jn | exact jm | apply bdw | (refine bdn ?_ _) | (refine bal ?_ (Nat.le_refl _) _))) hbm (Nat.le_refl _); obtain ⟨x0m, y0m, _, _⟩ := (B0.out.below jm B0.out.lt).two; obtain ⟨x1m, y1m, _, _⟩ := (B1.out.below jm B1.out.lt).two; obtain ⟨x2m, y2m, u2m, v2m⟩ := (B2.out.below jm B2.out.lt).two))
  all_goals
    go_wp2_with fail
    have hlo : w.heap.size ≤ wn.heap.size := Nat.le_trans s0 jn.size
    exact zretT (bst K0.out jm (Nat.le_refl _)) (B2.out.below jm B2.out.lt) (by omega) hzm (hrm.mono (by first | exact hlo | exact s0)) rfl rfl rfl rfl

set_option maxHeartbeats 1600000 in
theorem zsame_yes (b : Bool) (hr : Rd w w.heap.size A (u32s xs)) (hr2 : Rd w w.heap.size A2 (u32s xs)) (hm : xs.length ≤ 281474976710656) :
    Calls Tryz.prog 22 #[.agg #[.bool b, .slice A xs.length c], .agg #[.bool b, .slice A2 xs.length c2]] w fun e w' => e = .returned (.bool true) ∧ Below w.heap.size w w' := by
  have S1 : Hid (∀ W (_ : Below w.heap.size w W), Calls Tryz.prog 64 #[.slice A xs.length c, .slice A2 xs.length c2] W fun e w' => e = .returned (.bool true) ∧ Dr W w') := fun W hW => same_yes A A2 c c2 xs W W.heap.size ((hr.below hW).mono hW.size) ((hr2.below hW).mono hW.size) hm
  have tb : (b == b) = true := by simp
  clear hr hr2
  go_enter Tryz.func22, Tryz.ntmps22
  go_wp2_with fail
  refine (S1.out _ (bel_two _ _ _)).mono ?_
  rintro e w1 ⟨rfl, hd⟩
  go_wp2_with fail
  go_ret
  exact ⟨rfl, (bel_two _ _ _).trans (hd.below _)⟩
end
end
section
open Go.RowKit

section
variable {w : World} {p q r u g g2 g3 : Nat} {x y x2 y2 x3 y3 : Value} {fn : Func} {tmps : Array Value}
theorem lvz (h : Blk w g 37 [x, y]) : (loadVar 37 ⟨g, 0, none⟩).run Tryz.prog w = .ok (.agg #[x, y]) w :=
  run_loadVar_row w g 37 37 #[x, y] (0, 0) _ h Tryz.underlying37 rfl (by kernel_rfl)
theorem results_zs (h : fn.results = #[.cell p 37, .tmp u]) (hp : tmps.getD p undef = .pointer (some ⟨g, 0, none⟩)) (hb : Blk w g 37 [x, y]) :
    (results fn tmps).run Tryz.prog w = .ok (.tuple #[.agg #[x, y], tmps.getD u undef]) w := by
  have hp' : tmps[p]?.getD undef = .pointer (some ⟨g, 0, none⟩) := by simpa using hp
  simp [results, h, hp', asAddr, lvz hb]
end
end
section
open Go.RowKit

/-- The signed lift. -/
def lifZ (n k : Nat) : Int := if n + n ≤ k then (n : Int) else (n : Int) - (k : Int)
theorem lifZ_le {n k : Nat} (h : n + n ≤ k) : lifZ n k = (n : Int) := if_pos h
theorem lifZ_gt {n k : Nat} (h : ¬ n + n ≤ k) : lifZ n k = (n : Int) - (k : Int) := if_neg h
section
variable {w w' : World} {A A2 : Option Addr} {c c2 n k K J : Nat} {xs ys : List Nat}
theorem Hv.zh (h : Hv w A c xs n K) : Zh w false A c xs (n : Int) K := ⟨by simpa using h, by simp [ivalN]⟩
theorem Hv.cmpN (h : Hv w A c xs n K) (h2 : Hv w A2 c2 ys k J) (hK : K ≤ 67108864) (hJ : J ≤ 67108864) :
    Calls Tryz.prog 70 #[.slice A xs.length c, .slice A2 ys.length c2] w fun e w' => e = .returned (.int .i64 (cmpN n k)) ∧ Below w.heap.size w w' := by
  have hl1 := h.len
  have hl2 := h2.len
  have h9 := cmp_any A A2 c c2 xs ys w w.heap.size h.rd h2.rd h.dig h2.dig h.cap h2.cap (by omega) (by omega)
  rw [h.val_, h2.val_] at h9
  exact h9.mono fun _ _ ⟨e, d⟩ => ⟨e, d.below _⟩
theorem Hv.twice (h : Hv w A c xs n K) : n + n < 4294967296 ^ (K + 1) := by
  have h1 := h.lt
  rw [Nat.pow_succ]
  omega

set_option maxHeartbeats 800000 in
theorem plain_any (w : World) (A : Option Addr) (c n : Nat) : Calls Tryz.prog 72 #[.slice A n c] w fun e w' => e = .returned (.agg #[.bool false, .slice A n c]) ∧ Below w.heap.size w w' := by
  go_enter Tryz.func72, Tryz.ntmps72
  go_wp2
  exact bodyPost_ret (results_cell_row rfl _ _ w.heap.size 37 _ (0, 0) _ rfl (Blk.new_ rfl) Tryz.underlying37 rfl (by kernel_rfl)) rfl ⟨rfl, (Below.refl _ _).alloc (Nat.le_refl _) _⟩
set_option maxHeartbeats 1600000 in
theorem lift_any (h : Hv w A c xs n K) (h2 : Hv w A2 c2 ys k J) (hK : K ≤ 67108863) (hJ : J ≤ 67108863) :
    Calls Tryz.prog 62 #[.slice A xs.length c, .slice A2 ys.length c2] w fun e w' => ZOut w w' (lifZ n k) e := by
  have AD : Hid (∀ W (_ : Below w.heap.size w W), Calls Tryz.prog 78 #[.slice A xs.length c, .slice A xs.length c] W fun e w' => NOut W w' (n + n) e) := fun W hW => (h.next hW).addN (h.next hW) (by omega) (by omega)
  have CM : Hid (∀ (zs : List Nat) (A' : Option Addr) (c' B : Nat) (W : World), Below w.heap.size w W → Num 4294967296 zs (n + n) → Res W B 27 A' c' (u32s zs) → Calls Tryz.prog 70 #[.slice A' zs.length c', .slice A2 ys.length c2] W fun e w' => e = .returned (.int .i64 (cmpN (n + n) k)) ∧ Below W.heap.size W w') := fun zs A' c' B W hW hz hr => (Hv.of hz hr h.twice).cmpN (h2.next hW) (by omega) (by omega)
  have NM : Hid (∀ W (_ : Below w.heap.size w W), Calls Tryz.prog 84 #[.agg #[.bool false, .slice A xs.length c]] W fun e w' => ZOut W w' (n : Int) e) := fun W hW => (h.next hW).zh.norm (by omega)
  have SB : Hid (∀ W (_ : Below w.heap.size w W), Calls Tryz.prog 77 #[.agg #[.bool false, .slice A xs.length c], .agg #[.bool false, .slice A2 ys.length c2]] W fun e w' => ZOut W w' ((n : Int) - (k : Int)) e) := fun W hW => (h.next hW).zh.sub (h2.next hW).zh (by omega) (by omega)
  have PL : Hid (∀ (W : World) (A : Option Addr) (c n : Nat), Calls Tryz.prog 72 #[.slice A n c] W fun e w' => e = .returned (.agg #[.bool false, .slice A n c]) ∧ Below W.heap.size W w') := plain_any
  have k0 := bel_one w (.cells #[.bool false, .slice none 0 0] 37)
  have b0 := blk_one w (.bool false) (.slice none 0 0)
  obtain ⟨Z, hZ⟩ : ∃ Z, Z = lifZ n k := ⟨_, rfl⟩
  rw [← hZ]
  clear h h2
  go_enter Tryz.func62, Tryz.ntmps62
  go_wp2_with fail
  refine (AD.out _ k0).mono ?_
  rintro e w1 ⟨zs, A', c', rfl, hz, hr, hb⟩
  have k1 := bst k0 hb (Nat.le_refl _)
  have b1 := b0.below hb b0.lt
  have hsz0 : w.heap.size < w1.heap.size := b1.lt
  clear hb k0 b0
  go_wp2_with fail
  refine (CM.out _ _ _ _ _ k1 hz hr).mono ?_
  rintro e w2 ⟨rfl, hb⟩
  have k2 := bst k1 hb (Nat.le_refl _)
  have b2 := b1.below hb b1.lt
  clear hb k1 b1 hz hr
  obtain ⟨q0, q1, q2, q3⟩ := b2.two
  by_cases hc : n + n ≤ k
  · have tc : cmpN (n + n) k ≤ 0 := by unfold cmpN; split <;> (try split) <;> omega
    rw [lifZ_le hc] at hZ
    subst hZ
    clear hc q0 q1 q2 q3
    go_wp2_with fail
    refine (PL.out _ _ _ _).mono ?_
    rintro e w3 ⟨rfl, hb⟩
    have k3 := bst k2 hb (Nat.le_refl _)
    have b3 := b2.below hb b2.lt
    clear hb k2 b2
    go_wp2_with fail
    refine (NM.out _ k3).mono ?_
    rintro e w4 ⟨us, A4, c4, rfl, hu, hr4, hb⟩
    have k4 := bst k3 hb (Nat.le_refl _)
    have b4 := b3.below hb b3.lt
    have hsz := k3.size
    clear hb k3 b3
    obtain ⟨q0, q1, q2, q3⟩ := b4.two
    go_wp2_with fail
    exact zretT k4 b4 (Nat.le_refl _) hu (hr4.mono hsz) rfl rfl rfl rfl
  · have tc : ¬ (cmpN (n + n) k ≤ 0) := by unfold cmpN; split <;> (try split) <;> omega
    rw [lifZ_gt hc] at hZ
    subst hZ
    clear hc q0 q1 q2 q3
    go_wp2_with fail
    refine (PL.out _ _ _ _).mono ?_
    rintro e w3 ⟨rfl, hb⟩
    have k3 := bst k2 hb (Nat.le_refl _)
    have b3 := b2.below hb b2.lt
    clear hb k2 b2
    go_wp2_with fail
    refine (PL.out _ _ _ _).mono ?_
    rintro e w4 ⟨rfl, hb⟩
    have k4 := bst k3 hb (Nat.le_refl _)
    have b4 := b3.below hb b3.lt
    clear hb k3 b3
    go_wp2_with fail
    refine (SB.out _ k4).mono ?_
    rintro e w5 ⟨us, A4, c4, rfl, hu, hr4, hb⟩
    have k5 := bst k4 hb (Nat.le_refl _)
    have b5 := b4.below hb b4.lt
    have hsz := k4.size
    clear hb k4 b4
    obtain ⟨q0, q1, q2, q3⟩ := b5.two
    go_wp2_with fail
    exact zretT k5 b5 (Nat.le_refl _) hu (hr4.mono hsz) rfl rfl rfl rfl

/-- What crt.Lift answers, where it answers. -/
def LfOut (w w' : World) (z : Int) (e : Ending) : Prop := ∃ zs A' c', e = .returned (.tuple #[.agg #[.bool (isNeg z), .slice A' zs.length c'], .int .i64 0]) ∧ Num 4294967296 zs z.natAbs ∧ Res w' w.heap.size 27 A' c' (u32s zs) ∧ Below w.heap.size w w'
set_option maxHeartbeats 1600000 in
theorem lift_yes (h : Hv w A c xs n K) (h2 : Hv w A2 c2 ys k J) (hK : K ≤ 67108863) (hJ : J ≤ 67108863) (hlt : n < k) :
    Calls Tryz.prog 32 #[.slice A xs.length c, .slice A2 ys.length c2] w fun e w' => LfOut w w' (lifZ n k) e := by
  have CM : Hid (∀ W (_ : Below w.heap.size w W), Calls Tryz.prog 70 #[.slice A xs.length c, .slice A2 ys.length c2] W fun e w' => e = .returned (.int .i64 (cmpN n k)) ∧ Below W.heap.size W w') := fun W hW => (h.next hW).cmpN (h2.next hW) (by omega) (by omega)
  have LF : Hid (∀ W (_ : Below w.heap.size w W), Calls Tryz.prog 62 #[.slice A xs.length c, .slice A2 ys.length c2] W fun e w' => ZOut W w' (lifZ n k) e) := fun W hW => lift_any (h.next hW) (h2.next hW) hK hJ
  have k0 := bel_one w (.cells #[.bool false, .slice none 0 0] 37)
  have b0 := blk_one w (.bool false) (.slice none 0 0)
  have tc : ¬ (0 ≤ cmpN n k) := by unfold cmpN; rw [if_pos hlt]; omega
  clear h h2
  go_enter Tryz.func32, Tryz.ntmps32
  go_wp2_with fail
  refine (CM.out _ k0).mono ?_
  rintro e w1 ⟨rfl, hb⟩
  have k1 := bst k0 hb (Nat.le_refl _)
  have b1 := b0.below hb b0.lt
  clear hb k0 b0
  go_wp2_with fail
  refine (LF.out _ k1).mono ?_
  rintro e w2 ⟨zs, A', c', rfl, hz, hr, hb⟩
  have k2 := bst k1 hb (Nat.le_refl _)
  have b2 := b1.below hb b1.lt
  have hsz := k1.size
  clear hb k1 b1
  obtain ⟨q0, q1, q2, q3⟩ := b2.two
  go_wp2_with fail
  exact bodyPost_ret (results_zs rfl rfl (blk_pair b2 _ _)) rfl ⟨zs, A', c', rfl, hz, res_var2 (hr.mono hsz) b2 _ _, bsc (bsc k2 (Nat.le_refl _) _) (Nat.le_refl _) _⟩
set_option maxHeartbeats 1600000 in
theorem lift_no (h : Hv w A c xs n K) (h2 : Hv w A2 c2 ys k J) (hK : K ≤ 67108863) (hJ : J ≤ 67108863) (hlt : ¬ n < k) :
    Calls Tryz.prog 32 #[.slice A xs.length c, .slice A2 ys.length c2] w fun e w' => e = .returned (.tuple #[.agg #[.bool false, .slice none 0 0], .int .i64 1]) ∧ Below w.heap.size w w' := by
  have CM : Hid (∀ W (_ : Below w.heap.size w W), Calls Tryz.prog 70 #[.slice A xs.length c, .slice A2 ys.length c2] W fun e w' => e = .returned (.int .i64 (cmpN n k)) ∧ Below W.heap.size W w') := fun W hW => (h.next hW).cmpN (h2.next hW) (by omega) (by omega)
  have k0 := bel_one w (.cells #[.bool false, .slice none 0 0] 37)
  have b0 := blk_one w (.bool false) (.slice none 0 0)
  have tc : 0 ≤ cmpN n k := by unfold cmpN; rw [if_neg hlt]; split <;> omega
  clear h h2
  go_enter Tryz.func32, Tryz.ntmps32
  go_wp2_with fail
  refine (CM.out _ k0).mono ?_
  rintro e w1 ⟨rfl, hb⟩
  have k1 := bst k0 hb (Nat.le_refl _)
  have b1 := b0.below hb b0.lt
  clear hb k0 b0
  obtain ⟨q0, q1, q2, q3⟩ := b1.two
  go_wp2_with fail
  exact bodyPost_ret (results_zs rfl rfl (blk_pair b1 _ _)) rfl ⟨rfl, bsc (bsc k1 (Nat.le_refl _) _) (Nat.le_refl _) _⟩

set_option maxHeartbeats 1600000 in
theorem rlift_any (h : Hv w A c xs n K) (h2 : Hv w A2 c2 ys k J) (hK : K ≤ 67108862) (hJ : J ≤ 67108862) :
    Calls Tryz.prog 23 #[.slice A xs.length c, .slice A2 ys.length c2] w fun e w' => ZOut w w' (lifZ n k) e := by
  have AD : Hid (∀ W (_ : Below w.heap.size w W), Calls Tryz.prog 44 #[.slice A xs.length c, .slice A xs.length c] W fun e w' => NOut W w' (n + n) e) := fun W hW => (h.next hW).radd (h.next hW) (by omega) (by omega)
  have CM : Hid (∀ (zs : List Nat) (A' : Option Addr) (c' B : Nat) (W : World), Below w.heap.size w W → Num 4294967296 zs (n + n) → Res W B 27 A' c' (u32s zs) → Calls Tryz.prog 40 #[.slice A' zs.length c', .slice A2 ys.length c2] W fun e w' => e = .returned (.int .i64 (cmpN (n + n) k)) ∧ W = w') := fun zs A' c' B W hW hz hr => (Hv.of hz hr h.twice).rcmp (h2.next hW) (by omega) (by omega)
  have NM : Hid (∀ W (_ : Below w.heap.size w W), Calls Tryz.prog 45 #[.agg #[.bool false, .slice A xs.length c]] W fun e w' => ZOut W w' (n : Int) e) := fun W hW => (h.next hW).zh.rnorm (by omega)
  have SB : Hid (∀ W (_ : Below w.heap.size w W), Calls Tryz.prog 49 #[.agg #[.bool false, .slice A xs.length c], .agg #[.bool false, .slice A2 ys.length c2]] W fun e w' => ZOut W w' ((n : Int) - (k : Int)) e) := fun W hW => (h.next hW).zh.rsub (h2.next hW).zh (by omega) (by omega)
  have k0 := bel_one w (.cells #[.bool false, .slice none 0 0] 37)
  have b0 := blk_one w (.bool false) (.slice none 0 0)
  obtain ⟨Z, hZ⟩ : ∃ Z, Z = lifZ n k := ⟨_, rfl⟩
  rw [← hZ]
  clear h h2
  go_enter Tryz.func23, Tryz.ntmps23
  go_wp2_with fail
  refine (AD.out _ k0).mono ?_
  rintro e w1 ⟨zs, A', c', rfl, hz, hr, hb⟩
  have k1 := bst k0 hb (Nat.le_refl _)
  have b1 := b0.below hb b0.lt
  clear hb k0 b0
  go_wp2_with fail
  refine (CM.out _ _ _ _ _ k1 hz hr).mono ?_
  rintro e w2 ⟨rfl, rfl⟩
  clear hz hr
  by_cases hc : n + n ≤ k
  · have tc : ¬ (0 < cmpN (n + n) k) := by unfold cmpN; split <;> (try split) <;> omega
    rw [lifZ_le hc] at hZ
    subst hZ
    clear hc
    go_wp2_with fail
    refine (NM.out _ k1).mono ?_
    rintro e w4 ⟨us, A4, c4, rfl, hu, hr4, hb⟩
    have k4 := bst k1 hb (Nat.le_refl _)
    have b4 := b1.below hb b1.lt
    have hsz := k1.size
    clear hb k1 b1
    obtain ⟨q0, q1, q2, q3⟩ := b4.two
    go_wp2_with fail
    exact zretT k4 b4 (Nat.le_refl _) hu (hr4.mono hsz) rfl rfl rfl rfl
  · have tc : 0 < cmpN (n + n) k := by unfold cmpN; split <;> (try split) <;> omega
    rw [lifZ_gt hc] at hZ
    subst hZ
    clear hc
    go_wp2_with fail
    refine (SB.out _ k1).mono ?_
    rintro e w5 ⟨us, A4, c4, rfl, hu, hr4, hb⟩
    have k5 := bst k1 hb (Nat.le_refl _)
    have b5 := b1.below hb b1.lt
    have hsz := k1.size
    clear hb k1 b1
    obtain ⟨q0, q1, q2, q3⟩ := b5.two
    go_wp2_with fail
    exact zretT k5 b5 (Nat.le_refl _) hu (hr4.mono hsz) rfl rfl rfl rfl
theorem may_any (h : Hv w A c xs n K) (h2 : Hv w A2 c2 ys k J) (hK : K ≤ 67108864) (hJ : J ≤ 67108864) :
    Calls Tryz.prog 33 #[.slice A xs.length c, .slice A2 ys.length c2] w fun e w' => e = .returned (.bool (decide (n < k))) ∧ w' = w := by
  have CM : Hid (Calls Tryz.prog 40 #[.slice A xs.length c, .slice A2 ys.length c2] w fun e w' => e = .returned (.int .i64 (cmpN n k)) ∧ w = w') := h.rcmp h2 hK hJ
  have tc : decide (cmpN n k < 0) = decide (n < k) := by
    refine decide_eq_decide.2 ?_
    unfold cmpN
    split
    · exact ⟨fun _ => by assumption, fun _ => by omega⟩
    · split <;> exact ⟨fun h => by omega, fun h => by omega⟩
  clear h h2
  go_enter Tryz.func33, Tryz.ntmps33
  go_wp2_with fail
  refine CM.out.mono ?_
  rintro e w1 ⟨rfl, rfl⟩
  go_wp2
  go_ret
  exact ⟨by rw [← tc]; rfl, rfl⟩
end
end
section
open Go.RowKit
section
variable {w w' : World} {A A2 : Option Addr} {c c2 n k K J : Nat} {xs ys : List Nat}
theorem lnum_any (z : Int) (w : World) : Calls Tryz.prog 20 #[.int .i64 z] w fun e w' => e = .returned (.int .i64 z) ∧ w' = w := by
  go_enter Tryz.func20, Tryz.ntmps20
  go_wp2
  go_ret
  exact ⟨rfl, rfl⟩
set_option maxHeartbeats 3200000 in
theorem lifts_yes (h : Hv w A c xs n K) (h2 : Hv w A2 c2 ys k J) (hK : K ≤ 67108862) (hJ : J ≤ 67108862) (hlt : n < k)
    (AW : Hid (∀ W (_ : Below w.heap.size w W), Calls Tryz.prog 26 #[] W fun e w' => e = .returned (.bool true) ∧ Below W.heap.size W w')) :
    Calls Tryz.prog 6 #[.slice A xs.length c, .slice A2 ys.length c2] w fun e w' => e = .returned (.bool true) ∧ Below w.heap.size w w' := by
  have LF : Hid (Calls Tryz.prog 32 #[.slice A xs.length c, .slice A2 ys.length c2] w fun e w' => LfOut w w' (lifZ n k) e) := lift_yes h h2 (by omega) (by omega) hlt
  have MY : Hid (∀ W (_ : Below w.heap.size w W), Calls Tryz.prog 33 #[.slice A xs.length c, .slice A2 ys.length c2] W fun e w' => e = .returned (.bool true) ∧ w' = W) := fun W hW => by
    have h9 := may_any (h.next hW) (h2.next hW) (by omega) (by omega)
    rwa [decide_eq_true hlt] at h9
  have RL : Hid (∀ W (_ : Below w.heap.size w W), Calls Tryz.prog 23 #[.slice A xs.length c, .slice A2 ys.length c2] W fun e w' => ZOut W w' (lifZ n k) e) := fun W hW => rlift_any (h.next hW) (h2.next hW) hK hJ
  obtain ⟨z, hz0⟩ : ∃ z, z = lifZ n k := ⟨_, rfl⟩
  rw [← hz0] at LF RL
  clear h h2 hz0
  go_enter Tryz.func6, Tryz.ntmps6
  go_wp2_with fail
  refine LF.out.mono ?_
  rintro e w1 ⟨zs, A', c', rfl, hz, hr, hb⟩
  have k1 : Below w.heap.size w (w1.alloc (.cells #[.bool (isNeg z), .slice A' zs.length c'] 37)) := hb.alloc hb.size _
  have b1 := blk_one w1 (.bool (isNeg z)) (.slice A' zs.length c')
  have r1 : Rd (w1.alloc (.cells #[.bool (isNeg z), .slice A' zs.length c'] 37)) (w1.alloc (.cells #[.bool (isNeg z), .slice A' zs.length c'] 37)).heap.size A' (u32s zs) := (hr.rd.below (bel_one w1 _)).mono (bel_one w1 _).size
  have hlen := res_len hr
  have hlt1 := b1.lt
  obtain ⟨W1, hW1⟩ : ∃ W1, W1 = w1.alloc (.cells #[.bool (isNeg z), .slice A' zs.length c'] 37) := ⟨_, rfl⟩
  rw [← hW1] at k1 b1 r1 hlt1
  clear hr hb LF
  go_upto_region 2 with fail
  rw [← hW1]
  clear hW1
  go_wp2_with fail
  refine (MY.out _ k1).mono ?_
  rintro e w2 ⟨rfl, rfl⟩
  have RL2 : Hid (∀ W (_ : Below w2.heap.size w2 W), Calls Tryz.prog 23 #[.slice A xs.length c, .slice A2 ys.length c2] W fun e w' => ZOut W w' z e) := fun W hW => RL.out W (bst k1 hW (Nat.le_refl _) |>.mono (Nat.le_refl _))
  have AW2 : Hid (∀ W (_ : Below w2.heap.size w2 W), Calls Tryz.prog 26 #[] W fun e w' => e = .returned (.bool true) ∧ Below W.heap.size W w') := fun W hW => AW.out W (bst k1 hW (Nat.le_refl _))
  have SM : Hid (∀ (A4 : Option Addr) (c4 : Nat) (W : World), Below w2.heap.size w2 W → Rd W W.heap.size A4 (u32s zs) → Calls Tryz.prog 22 #[.agg #[.bool (isNeg z), .slice A' zs.length c'], .agg #[.bool (isNeg z), .slice A4 zs.length c4]] W fun e w' => e = .returned (.bool true) ∧ Below W.heap.size W w') := fun A4 c4 W hW hr4 => zsame_yes (isNeg z) ((r1.below hW).mono hW.size) hr4 hlen
  obtain ⟨q0, q1, _, _⟩ := b1.two
  have HZ := Lib.hid hz
  clear MY RL AW hz r1
  go_wp2_with fail
  go_region_held3 (fun W => W.cell? ⟨w1.heap.size, 0, none⟩ = some (.bool (isNeg z)) ∧ W.cell? ⟨w1.heap.size, 1, none⟩ = some (.slice A' zs.length c')) (go_keep) (first
    | (go_at_call 20; (with_reducible refine (lnum_any _ _).mono ?_); rintro e w3 ⟨rfl, rfl⟩)
    | (go_at_call 23; (with_reducible refine (RL2.out _ (by repeat (first | exact Below.refl _ _ | exact Below.refl _ _ | apply bdw | (refine bdn ?_ _)))).mono ?_); rintro e w4 ⟨us, A4, c4, rfl, hu, hr4, hb4⟩; obtain rfl := Num.unique (by decide) hu HZ.out; have x4 : Below w2.heap.size w2 w4 := bst (by repeat (first | exact Below.refl _ _ | exact Below.refl _ _ | apply bdw | (refine bdn ?_ _))) hb4 (Nat.le_refl _); have y4a := (x4.cell (p := ⟨w1.heap.size, 0, none⟩) hlt1).trans q0; have y4b := (x4.cell (p := ⟨w1.heap.size, 1, none⟩) hlt1).trans q1; have SM4 := Lib.hid (fun (W : World) (hW : Below w4.heap.size w4 W) => SM.out A4 c4 W (bst x4 hW (Nat.le_refl _)) ((hr4.rd.below hW).mono hW.size)); clear hr4)
    | (go_at_call 22; (with_reducible refine (SM4.out _ (by repeat (first | exact Below.refl _ _ | exact Below.refl _ _ | apply bdw | (refine bdn ?_ _)))).mono ?_); rintro e w5 ⟨rfl, hb5⟩; have x5 : Below w2.heap.size w2 w5 := bst (by repeat (first | exact Below.refl _ _ | exact x4 | apply bdw | (refine bdn ?_ _))) hb5 (Nat.le_refl _); have y5a := (x5.cell (p := ⟨w1.heap.size, 0, none⟩) hlt1).trans q0; have y5b := (x5.cell (p := ⟨w1.heap.size, 1, none⟩) hlt1).trans q1)
    | (go_at_call 26; (with_reducible refine (AW2.out _ (by repeat (first | exact Below.refl _ _ | exact x5 | apply bdw | (refine bdn ?_ _)))).mono ?_); rintro e w6 ⟨rfl, hb6⟩; have x6 : Below w2.heap.size w2 w6 := bst (by repeat (first | exact Below.refl _ _ | exact x5 | apply bdw | (refine bdn ?_ _))) hb6 (Nat.le_refl _); have y6a := (x6.cell (p := ⟨w1.heap.size, 0, none⟩) hlt1).trans q0; have y6b := (x6.cell (p := ⟨w1.heap.size, 1, none⟩) hlt1).trans q1))
  all_goals
    go_wp2_with fail
    go_ret
    exact ⟨rfl, bst k1 x6 (Nat.le_refl _)⟩
set_option maxHeartbeats 3200000 in
theorem lifts_no (h : Hv w A c xs n K) (h2 : Hv w A2 c2 ys k J) (hK : K ≤ 67108862) (hJ : J ≤ 67108862) (hlt : ¬ n < k)
    (AW : Hid (∀ W (_ : Below w.heap.size w W), Calls Tryz.prog 26 #[] W fun e w' => e = .returned (.bool true) ∧ Below W.heap.size W w')) :
    Calls Tryz.prog 6 #[.slice A xs.length c, .slice A2 ys.length c2] w fun e w' => e = .returned (.bool true) ∧ Below w.heap.size w w' := by
  have LF : Hid (Calls Tryz.prog 32 #[.slice A xs.length c, .slice A2 ys.length c2] w fun e w' => e = .returned (.tuple #[.agg #[.bool false, .slice none 0 0], .int .i64 1]) ∧ Below w.heap.size w w') := lift_no h h2 (by omega) (by omega) hlt
  have MY : Hid (∀ W (_ : Below w.heap.size w W), Calls Tryz.prog 33 #[.slice A xs.length c, .slice A2 ys.length c2] W fun e w' => e = .returned (.bool false) ∧ w' = W) := fun W hW => by
    have h9 := may_any (h.next hW) (h2.next hW) (by omega) (by omega)
    rwa [decide_eq_false hlt] at h9
  clear h h2
  go_enter Tryz.func6, Tryz.ntmps6
  go_wp2_with fail
  refine LF.out.mono ?_
  rintro e w1 ⟨rfl, hb⟩
  have k1 : Below w.heap.size w (w1.alloc (.cells #[.bool false, .slice none 0 0] 37)) := hb.alloc hb.size _
  have b1 := blk_one w1 (.bool false) (.slice none 0 0)
  obtain ⟨W1, hW1⟩ : ∃ W1, W1 = w1.alloc (.cells #[.bool false, .slice none 0 0] 37) := ⟨_, rfl⟩
  rw [← hW1] at k1 b1
  clear hb LF
  go_upto_region 2 with fail
  rw [← hW1]
  clear hW1
  go_wp2_with fail
  refine (MY.out _ k1).mono ?_
  rintro e w2 ⟨rfl, rfl⟩
  obtain ⟨q0, q1, _, _⟩ := b1.two
  go_wp2_with fail
  refine (lnum_any _ _).mono ?_
  rintro e w3 ⟨rfl, rfl⟩
  go_wp2_with fail
  refine (AW.out _ k1).mono ?_
  rintro e w4 ⟨rfl, hb4⟩
  go_wp2_with fail
  go_ret
  exact ⟨rfl, bst k1 hb4 (Nat.le_refl _)⟩
theorem lifts_walk (h : Hv w A c xs n K) (h2 : Hv w A2 c2 ys k J) (hK : K ≤ 67108862) (hJ : J ≤ 67108862)
    (AW : Hid (∀ W (_ : Below w.heap.size w W), Calls Tryz.prog 26 #[] W fun e w' => e = .returned (.bool true) ∧ Below W.heap.size W w')) :
    Calls Tryz.prog 6 #[.slice A xs.length c, .slice A2 ys.length c2] w fun e w' => e = .returned (.bool true) ∧ Below w.heap.size w w' := by
  by_cases hlt : n < k
  · exact lifts_yes h h2 hK hJ hlt AW
  · exact lifts_no h h2 hK hJ hlt AW
end
end
end Go.Proofs.YtadpelhmjmamnaaGreatDoor
