/- The contracts of the reference's Add, Sub, Cmp and Mul on in. -/
import Derived.Test.YtcjgilagldbjnaaGreatDoorPkBb42
import Derived.Deep.DeepCutAuto
namespace Go.Proofs.YtcjgilagldbjnaaGreatDoor
open Go.RowKit
theorem vr_two {B g h K J : Nat} {X : World} {z y : Int} {x1 y1 x2 y2 : Value} {A A2 : Option Addr} {c c2 : Nat} {zs ys : List Nat} (hg : Blk X g 25 [x1, y1]) (hh : Blk X h 25 [x2, y2]) (hne : g ≠ h)
  (nz : Num 4294967296 zs z.natAbs) (rz : Res X B 34 A c (u32s zs)) (lz : zs.length ≤ K) (ny : Num 4294967296 ys y.natAbs) (ry : Res X B 34 A2 c2 (u32s ys)) (ly : ys.length ≤ J) :
  Vr B ((((X.setCell ⟨g, 0, none⟩ (.bool (isNeg z))).setCell ⟨g, 1, none⟩ (.slice A zs.length c)).setCell ⟨h, 0, none⟩ (.bool (isNeg y))).setCell ⟨h, 1, none⟩ (.slice A2 ys.length c2)) g z K ∧
  Vr B ((((X.setCell ⟨g, 0, none⟩ (.bool (isNeg z))).setCell ⟨g, 1, none⟩ (.slice A zs.length c)).setCell ⟨h, 0, none⟩ (.bool (isNeg y))).setCell ⟨h, 1, none⟩ (.slice A2 ys.length c2)) h y J :=
 have hh2 := (hh.far (p := ⟨g, 0, none⟩) (fun e => hne e.symm) (.bool (isNeg z))).far (p := ⟨g, 1, none⟩) (fun e => hne e.symm) (.slice A zs.length c)
 ⟨(Vr.put hg nz rz lz).other hh2 hne _ _, Vr.put hh2 ny (res_var2 ry hg _ _) ly⟩
theorem far4 {g h k : Nat} {X : World} {t : TypeId} {vs : List Value} {u1 u2 u3 u4 : Value} (hb : Blk X k t vs) (h1 : k ≠ g) (h2 : k ≠ h) : Blk ((((X.setCell ⟨g, 0, none⟩ u1).setCell ⟨g, 1, none⟩ u2).setCell ⟨h, 0, none⟩ u3).setCell ⟨h, 1, none⟩ u4) k t vs :=
 (((hb.far (p := ⟨g, 0, none⟩) h1 _).far (p := ⟨g, 1, none⟩) h1 _).far (p := ⟨h, 0, none⟩) h2 _).far (p := ⟨h, 1, none⟩) h2 _
theorem bsc4 {B g h : Nat} {a X : World} {u1 u2 u3 u4 : Value} (hb : Below B a X) (h1 : B ≤ g) (h2 : B ≤ h) : Below B a ((((X.setCell ⟨g, 0, none⟩ u1).setCell ⟨g, 1, none⟩ u2).setCell ⟨h, 0, none⟩ u3).setCell ⟨h, 1, none⟩ u4) := bsc (bsc (bsc (bsc hb h1 _) h1 _) h2 _) h2 _
theorem zn_of {w : World} {B : Nat} {A : Option Addr} {c K : Nat} {zs : List Nat} {z : Int} (n : Num 4294967296 zs z.natAbs) (r : Res w B 34 A c (u32s zs)) (l : zs.length ≤ K) : Zn w A c zs z K :=
 ⟨n, r.rd, by have := r.1; rwa [u32s_length] at this, l⟩
theorem ival_of {b : Bool} {z : Int} (h : isNeg z = b) : ivalN b z.natAbs = z := by rw [← h]; exact ival_abs z
section
variable {w : World} {g g2 : Bool} {A A2 : Option Addr} {c c2 K J : Nat} {xs ys : List Nat} {z y : Int}
def AddMid (w : World) (z y : Int) (K J : Nat) (v : Value) (W : World) : Prop := v = .pointer (some ⟨w.heap.size + 2, 0, none⟩) ∧ Vr w.heap.size W w.heap.size z K ∧ Vr w.heap.size W (w.heap.size + 1) y J ∧ Blk W (w.heap.size + 2) 25 [.bool false, .slice none 0 0] ∧ Below w.heap.size w W
set_option maxHeartbeats 6400000 in
theorem Zh.radd (h : Zh w g A c xs z K) (h2 : Zh w g2 A2 c2 ys y J) (hK : K ≤ 67108863) (hJ : J ≤ 67108863) :
  Calls Tryz.prog 54 #[.agg #[.bool g, .slice A xs.length c], .agg #[.bool g2, .slice A2 ys.length c2]] w fun e w' => ZOut w w' (z + y) e := by
 have NA : Hid (∀ W (_ : Below w.heap.size w W), Calls Tryz.prog 50 #[.agg #[.bool g, .slice A xs.length c]] W fun e w' => ZOut W w' z e) := fun W hW => (h.next hW).rnorm (by omega)
 have NB : Hid (∀ W (_ : Below w.heap.size w W), Calls Tryz.prog 50 #[.agg #[.bool g2, .slice A2 ys.length c2]] W fun e w' => ZOut W w' y e) := fun W hW => (h2.next hW).rnorm (by omega)
 obtain ⟨b0, b1, b2⟩ := blk_three w (.bool g) (.slice A xs.length c) (.bool g2) (.slice A2 ys.length c2) (.bool false) (.slice none 0 0)
 have k0 := bel_three w (.cells #[.bool g, .slice A xs.length c] 25) (.cells #[.bool g2, .slice A2 ys.length c2] 25) (.cells #[.bool false, .slice none 0 0] 25)
 have hzl := h.lt
 have hyl := h2.lt
 clear h h2
 go_enter Tryz.func54, Tryz.ntmps54
 go_wp2_with fail
 obtain ⟨w0, hw0⟩ : ∃ w0, w0 = ((w.alloc (.cells #[.bool g, .slice A xs.length c] 25)).alloc (.cells #[.bool g2, .slice A2 ys.length c2] 25)).alloc (.cells #[.bool false, .slice none 0 0] 25) := ⟨_, rfl⟩
 rw [← hw0] at b0 b1 b2 k0 ⊢
 clear hw0
 have B0 := hi9 b0
 have B1 := hi9 b1
 have B2 := hi9 b2
 have K0 := hi9 k0
 replace NA : Hid (∀ W (_ : Below w0.heap.size w0 W), Calls Tryz.prog 50 #[.agg #[.bool g, .slice A xs.length c]] W fun e w' => ZOut W w' z e) := fun W hW => NA.out W (bst K0.out hW nl9)
 replace NB : Hid (∀ W (_ : Below w0.heap.size w0 W), Calls Tryz.prog 50 #[.agg #[.bool g2, .slice A2 ys.length c2]] W fun e w' => ZOut W w' y e) := fun W hW => NB.out W (bst K0.out hW nl9)
 have s0 : w.heap.size ≤ w0.heap.size := k0.size
 obtain ⟨p0, p1, p2, p3⟩ := b0.two
 obtain ⟨q0, q1, q2, q3⟩ := b1.two
 clear b0 b1 b2 k0
 have n1 : w.heap.size ≠ w.heap.size + 1 := by omega
 have n2 : w.heap.size + 1 ≠ w.heap.size := by omega
 go_cut [4] (fun v W => AddMid w z y K J v W)
 case first =>
  go_region_with (first
   | (go_at_call 50; (with_reducible refine (NA.out _ (by repeat (first | exact br9 | exact ja | exact jb | apply bdw | (refine bdn ?_ _) | (refine bal ?_ nl9 _)))).mono ?_); rintro e wa ⟨za, Aa, ca, rfl, hza, hra, hba⟩; have ja : Below w0.heap.size w0 wa := bst (by repeat (first | exact br9 | exact ja | exact jb | apply bdw | (refine bdn ?_ _) | (refine bal ?_ nl9 _))) hba nl9; obtain ⟨x0a, y0a, u0a, v0a⟩ := (B0.out.below ja B0.out.lt).two; obtain ⟨x1a, y1a, u1a, v1a⟩ := (B1.out.below ja B1.out.lt).two; obtain ⟨x2a, y2a, u2a, v2a⟩ := (B2.out.below ja B2.out.lt).two)
   | (go_at_call 50; (with_reducible refine (NB.out _ (by repeat (first | exact br9 | exact ja | exact jb | apply bdw | (refine bdn ?_ _) | (refine bal ?_ nl9 _)))).mono ?_); rintro e wb ⟨zb, Ab, cb, rfl, hzb, hrb, hbb⟩; have jb : Below w0.heap.size w0 wb := bst (by repeat (first | exact br9 | exact ja | exact jb | apply bdw | (refine bdn ?_ _) | (refine bal ?_ nl9 _))) hbb nl9; obtain ⟨x0b, y0b, u0b, v0b⟩ := (B0.out.below jb B0.out.lt).two; obtain ⟨x1b, y1b, u1b, v1b⟩ := (B1.out.below jb B1.out.lt).two; obtain ⟨x2b, y2b, u2b, v2b⟩ := (B2.out.below jb B2.out.lt).two))
  all_goals
   go_wp2_with fail
   go_meet
   have la := num32_len hza nl9 hzl
   have lb := num32_len hzb nl9 hyl
   have sa : w.heap.size ≤ wa.heap.size := Nat.le_trans s0 ja.size
   have sb : w.heap.size ≤ wb.heap.size := Nat.le_trans s0 jb.size
   first
    | (have F := vr_two (B := w.heap.size) (B0.out.below jb B0.out.lt) (B1.out.below jb B1.out.lt) n1 hza ((hra.mono (by first | exact s0 | exact sb)).below hbb nl9) la hzb (hrb.mono (by first | exact sa | exact s0)) lb
       exact ⟨rfl, F.1, F.2, far4 (B2.out.below jb B2.out.lt) (by omega) (by omega), bsc4 (bst K0.out jb nl9) (by omega) (by omega)⟩)
    | (have F := vr_two (B := w.heap.size) (B0.out.below ja B0.out.lt) (B1.out.below ja B1.out.lt) n1 hza (hra.mono (by first | exact s0 | exact sb)) la hzb ((hrb.mono (by first | exact sa | exact s0)).below hba nl9) lb
       exact ⟨rfl, F.1, F.2, far4 (B2.out.below ja B2.out.lt) (by omega) (by omega), bsc4 (bst K0.out ja nl9) (by omega) (by omega)⟩)
    | (have F := vr_two (B := w.heap.size) (B1.out.below jb B1.out.lt) (B0.out.below jb B0.out.lt) n2 hzb (hrb.mono (by first | exact sa | exact s0)) lb hza ((hra.mono (by first | exact s0 | exact sb)).below hbb nl9) la
       exact ⟨rfl, F.2, F.1, far4 (B2.out.below jb B2.out.lt) (by omega) (by omega), bsc4 (bst K0.out jb nl9) (by omega) (by omega)⟩)
    | (have F := vr_two (B := w.heap.size) (B1.out.below ja B1.out.lt) (B0.out.below ja B0.out.lt) n2 hzb ((hrb.mono (by first | exact sa | exact s0)).below hba nl9) lb hza (hra.mono (by first | exact s0 | exact sb)) la
       exact ⟨rfl, F.2, F.1, far4 (B2.out.below ja B2.out.lt) (by omega) (by omega), bsc4 (bst K0.out ja nl9) (by omega) (by omega)⟩)
 case rest =>
  obtain ⟨rfl, ⟨Aa, ca, za, ba, na, ra, la⟩, ⟨Ab, cb, zb, bb, nb, rb, lb⟩, br, kc⟩ := hcut
  clear NA NB B0 B1 B2 K0 p0 p1 p2 p3 q0 q1 q2 q3 s0 n1 n2 w0
  have hlc := kc.size
  have hza := zn_of na ra la
  have hzb := zn_of nb rb lb
  have ZA := hi9 hza
  have ZB := hi9 hzb
  have RA := hi9 ra
  have RB := hi9 rb
  have NA := hi9 na
  have NB := hi9 nb
  clear hza hzb ra rb na nb
  obtain ⟨bz, hbz⟩ : ∃ b, b = isNeg z := ⟨_, rfl⟩
  obtain ⟨by_, hby⟩ : ∃ b, b = isNeg y := ⟨_, rfl⟩
  have vz := ival_of hbz.symm
  have vy := ival_of hby.symm
  rw [← hbz] at ba
  rw [← hby] at bb
  have HBZ := hi9 hbz
  have HBY := hi9 hby
  clear hbz hby
  cases bz <;> cases by_
  ·have HS : Hid (ivalN false (z.natAbs + y.natAbs) = z + y) := by show _ = _; simp only [ivalN] at vz vy ⊢; first | omega | (simp at vz vy ⊢; omega)
   have HV : Hid ((z + y).natAbs = z.natAbs + y.natAbs) := by show _ = _; have := HS.out; rw [← this, abs_ival]
   have HSZ : Hid (z.natAbs + y.natAbs < 4294967296 ^ (max K J + 1)) := sum_lt_pow9 (by omega) hzl hyl
   clear vz vy
   have OP : Hid (∀ W (_ : Below wc.heap.size wc W), Calls Tryz.prog 25 #[.slice Aa za.length ca, .slice Ab zb.length cb] W fun e w' => NOut W w' (z.natAbs + y.natAbs) e) := fun W hW => (ZA.out.next hW).hv.radd (ZB.out.next hW).hv (by omega) (by omega)
   have NM : Hid (∀ (zs : List Nat) (As : Option Addr) (cs B9 : Nat) (wo W : World), Num 4294967296 zs (z.natAbs + y.natAbs) → Res wo B9 34 As cs (u32s zs) → Below wo.heap.size wo W → Calls Tryz.prog 50 #[.agg #[.bool false, .slice As zs.length cs]] W fun e w' => ZOut W w' (z + y) e) := fun zs As cs B9 wo W hz hr hW => by
    have hv := (Hv.of (K := max K J + 1) hz hr HSZ.out).next hW
    exact Zh.rnorm (K := max K J + 1) ⟨by rw [HV.out]; exact hv, by rw [HV.out]; exact HS.out⟩ (by omega)
   have BP := hi9 (ba)
   have BQ := hi9 (bb)
   have BR := hi9 br
   obtain ⟨p0, p1, _, _⟩ := BP.out.two
   obtain ⟨q0, q1, _, _⟩ := BQ.out.two
   obtain ⟨r0, r1, r2, r3⟩ := br.two
   have n1 : w.heap.size ≠ w.heap.size + 1 + 1 := by omega
   have n2 : w.heap.size + 1 + 1 ≠ w.heap.size := by omega
   clear ba bb br
   go_wp2_with fail
   go_region_held3 (fun W => W.cell? ⟨w.heap.size, 0, none⟩ = some (.bool false) ∧ W.cell? ⟨w.heap.size, 1, none⟩ = some (.slice Aa za.length ca) ∧ W.cell? ⟨w.heap.size + 1, 1, none⟩ = some (.slice Ab zb.length cb)) (go_keep) (first
    | (go_at_call 25; (with_reducible refine (OP.out _ (by repeat (first | exact br9 | exact js | exact jm | apply bdw | (refine bdn ?_ _) | (refine bal ?_ nl9 _)))).mono ?_); rintro e ws ⟨zs, As, cs, rfl, hzs, hrs, hbs⟩; have js : Below wc.heap.size wc ws := bst (by repeat (first | exact br9 | exact js | exact jm | apply bdw | (refine bdn ?_ _) | (refine bal ?_ nl9 _))) hbs nl9; obtain ⟨x0s, y0s, _, _⟩ := (BP.out.below js BP.out.lt).two; obtain ⟨x1s, y1s, _, _⟩ := (BQ.out.below js BQ.out.lt).two; obtain ⟨x2s, y2s, u2s, v2s⟩ := (BR.out.below js BR.out.lt).two)
    | (go_at_call 50; (with_reducible refine (NM.out zs As cs _ ws _ hzs hrs (by first | exact br9 | exact bdw br9)).mono ?_); rintro e wm ⟨zm, Am, cm, rfl, hzm, hrm, hbm⟩; have jm : Below wc.heap.size wc wm := bst (by repeat (first | exact br9 | exact js | exact jm | apply bdw | (refine bdn ?_ _) | (refine bal ?_ nl9 _))) hbm nl9; obtain ⟨x0m, y0m, _, _⟩ := (BP.out.below jm BP.out.lt).two; obtain ⟨x1m, y1m, _, _⟩ := (BQ.out.below jm BQ.out.lt).two; obtain ⟨x2m, y2m, u2m, v2m⟩ := (BR.out.below jm BR.out.lt).two))
   all_goals
    go_wp2_with fail
    have hlo : w.heap.size ≤ ws.heap.size := (bst kc js nl9).size
    exact zretT (bst kc jm nl9) (BR.out.below jm BR.out.lt) (by omega) hzm (hrm.mono hlo) rfl rfl rfl rfl
  ·have C1 : Hid (∀ W (_ : Below wc.heap.size wc W), Calls Tryz.prog 27 #[.slice Aa za.length ca, .slice Ab zb.length cb] W fun e w' => e = .returned (.int .i64 (cmpN z.natAbs y.natAbs)) ∧ W = w') := fun W hW => (ZA.out.next hW).hv.rcmp (ZB.out.next hW).hv (by omega) (by omega)
   obtain ⟨p0, p1, p2, p3⟩ := ba.two
   obtain ⟨q0, q1, q2, q3⟩ := bb.two
   by_cases hlt : z.natAbs < y.natAbs
   ·have HS : Hid (ivalN true (y.natAbs - z.natAbs) = z + y) := by show _ = _; simp only [ivalN] at vz vy ⊢; first | omega | (simp at vz vy ⊢; omega)
    have HV : Hid ((z + y).natAbs = y.natAbs - z.natAbs) := by show _ = _; have := HS.out; rw [← this, abs_ival]
    have HSZ : Hid (y.natAbs - z.natAbs < 4294967296 ^ (max K J + 1)) := Nat.lt_of_le_of_lt (Nat.le_trans (Nat.sub_le _ _) (Nat.le_add_left _ _)) (sum_lt_pow9 (by omega) hzl hyl)
    have tc : cmpN z.natAbs y.natAbs = -1 := by unfold cmpN; rw [if_pos hlt]
    rw [tc] at C1
    have Hlt := hi9 hlt
    clear vz vy tc hlt
    have n1 : w.heap.size ≠ w.heap.size + 1 := by omega
    have n2 : w.heap.size + 1 ≠ w.heap.size := by omega
    go_wp2_with fail
    refine (C1.out _ br9).mono ?_
    rintro e wd ⟨rfl, rfl⟩
    go_upto_region 6 with (fail)
    obtain ⟨w5, hw5⟩ : ∃ w5, w5 = ((((wc.setCell ⟨w.heap.size, 0, none⟩ (.bool true)).setCell ⟨w.heap.size, 1, none⟩ (.slice Ab zb.length cb)).setCell ⟨w.heap.size + 1, 0, none⟩ (.bool false)).setCell ⟨w.heap.size + 1, 1, none⟩ (.slice Aa za.length ca)) := ⟨_, rfl⟩
    rw [← hw5]
    obtain ⟨c0, c1, k5, br5, ra5, rb5⟩ : Blk w5 w.heap.size 25 [.bool true, .slice Ab zb.length cb] ∧ Blk w5 (w.heap.size + 1) 25 [.bool false, .slice Aa za.length ca] ∧ Below w.heap.size w w5 ∧ Blk w5 (w.heap.size + 2) 25 [.bool false, .slice none 0 0] ∧ Res w5 w.heap.size 34 Aa ca (u32s za) ∧ Res w5 w.heap.size 34 Ab cb (u32s zb) := by
     rw [hw5]
     have bb2 := (bb.far (p := ⟨w.heap.size, 0, none⟩) (by show _ ≠ w.heap.size; omega) (.bool true)).far (p := ⟨w.heap.size, 1, none⟩) (by show _ ≠ w.heap.size; omega) (.slice Ab zb.length cb)
     exact ⟨((blk_pair ba _ _).far (p := ⟨w.heap.size + 1, 0, none⟩) (by show _ ≠ w.heap.size + 1; omega) _).far (p := ⟨w.heap.size + 1, 1, none⟩) (by show _ ≠ w.heap.size + 1; omega) _, blk_pair bb2 _ _, bsc4 kc (by omega) (by omega), far4 br (by omega) (by omega), res_var2 (res_var2 RA.out ba _ _) bb2 _ _, res_var2 (res_var2 RB.out ba _ _) bb2 _ _⟩
    clear hw5 p0 p1 p2 p3 q0 q1 q2 q3 n1 n2 ba bb br C1 kc ZA ZB hlc
    have kc := k5
    have br := br5
    have hlc := kc.size
    have ZA := hi9 (zn_of NA.out ra5 la)
    have ZB := hi9 (zn_of NB.out rb5 lb)
    clear k5 br5 ra5 rb5 RA RB
    have OP : Hid (∀ W (_ : Below w5.heap.size w5 W), Calls Tryz.prog 73 #[.slice Ab zb.length cb, .slice Aa za.length ca] W fun e w' => NOut W w' (y.natAbs - z.natAbs) e) := fun W hW => (ZB.out.next hW).hv.rsub (ZA.out.next hW).hv (by omega) (by omega) (Nat.le_of_lt Hlt.out)
    have NM : Hid (∀ (zs : List Nat) (As : Option Addr) (cs B9 : Nat) (wo W : World), Num 4294967296 zs (y.natAbs - z.natAbs) → Res wo B9 34 As cs (u32s zs) → Below wo.heap.size wo W → Calls Tryz.prog 50 #[.agg #[.bool true, .slice As zs.length cs]] W fun e w' => ZOut W w' (z + y) e) := fun zs As cs B9 wo W hz hr hW => by
     have hv := (Hv.of (K := max K J + 1) hz hr HSZ.out).next hW
     exact Zh.rnorm (K := max K J + 1) ⟨by rw [HV.out]; exact hv, by rw [HV.out]; exact HS.out⟩ (by omega)
    have BP := hi9 (c0)
    have BQ := hi9 (c1)
    have BR := hi9 br
    obtain ⟨p0, p1, _, _⟩ := BP.out.two
    obtain ⟨q0, q1, _, _⟩ := BQ.out.two
    obtain ⟨r0, r1, r2, r3⟩ := br.two
    have n1 : w.heap.size ≠ w.heap.size + 1 + 1 := by omega
    have n2 : w.heap.size + 1 + 1 ≠ w.heap.size := by omega
    clear c0 c1 br
    go_wp2_with fail
    go_region_held3 (fun W => W.cell? ⟨w.heap.size, 0, none⟩ = some (.bool true) ∧ W.cell? ⟨w.heap.size, 1, none⟩ = some (.slice Ab zb.length cb) ∧ W.cell? ⟨w.heap.size + 1, 1, none⟩ = some (.slice Aa za.length ca)) (go_keep) (first
     | (go_at_call 73; (with_reducible refine (OP.out _ (by repeat (first | exact br9 | exact js | exact jm | apply bdw | (refine bdn ?_ _) | (refine bal ?_ nl9 _)))).mono ?_); rintro e ws ⟨zs, As, cs, rfl, hzs, hrs, hbs⟩; have js : Below w5.heap.size w5 ws := bst (by repeat (first | exact br9 | exact js | exact jm | apply bdw | (refine bdn ?_ _) | (refine bal ?_ nl9 _))) hbs nl9; obtain ⟨x0s, y0s, _, _⟩ := (BP.out.below js BP.out.lt).two; obtain ⟨x1s, y1s, _, _⟩ := (BQ.out.below js BQ.out.lt).two; obtain ⟨x2s, y2s, u2s, v2s⟩ := (BR.out.below js BR.out.lt).two)
     | (go_at_call 50; (with_reducible refine (NM.out zs As cs _ ws _ hzs hrs (by first | exact br9 | exact bdw br9)).mono ?_); rintro e wm ⟨zm, Am, cm, rfl, hzm, hrm, hbm⟩; have jm : Below w5.heap.size w5 wm := bst (by repeat (first | exact br9 | exact js | exact jm | apply bdw | (refine bdn ?_ _) | (refine bal ?_ nl9 _))) hbm nl9; obtain ⟨x0m, y0m, _, _⟩ := (BP.out.below jm BP.out.lt).two; obtain ⟨x1m, y1m, _, _⟩ := (BQ.out.below jm BQ.out.lt).two; obtain ⟨x2m, y2m, u2m, v2m⟩ := (BR.out.below jm BR.out.lt).two))
    all_goals
     go_wp2_with fail
     have hlo : w.heap.size ≤ ws.heap.size := (bst kc js nl9).size
     exact zretT (bst kc jm nl9) (BR.out.below jm BR.out.lt) (by omega) hzm (hrm.mono hlo) rfl rfl rfl rfl
   ·have HS : Hid (ivalN false (z.natAbs - y.natAbs) = z + y) := by show _ = _; simp only [ivalN] at vz vy ⊢; first | omega | (simp at vz vy ⊢; omega)
    have HV : Hid ((z + y).natAbs = z.natAbs - y.natAbs) := by show _ = _; have := HS.out; rw [← this, abs_ival]
    have HSZ : Hid (z.natAbs - y.natAbs < 4294967296 ^ (max K J + 1)) := Nat.lt_of_le_of_lt (Nat.le_trans (Nat.sub_le _ _) (Nat.le_add_right _ _)) (sum_lt_pow9 (by omega) hzl hyl)
    obtain ⟨cv, hcv⟩ : ∃ v, v = cmpN z.natAbs y.natAbs := ⟨_, rfl⟩
    have tc : decide (cv < 0) = false := by rw [hcv]; unfold cmpN; rw [if_neg hlt]; split <;> rfl
    rw [← hcv] at C1
    have Hlt : Hid (y.natAbs ≤ z.natAbs) := by show _ ≤ _; omega
    clear vz vy hlt hcv
    go_wp2_with fail
    refine (C1.out _ br9).mono ?_
    rintro e wd ⟨rfl, rfl⟩
    go_upto_region 6 with (simp only [])
    clear C1 p0 p1 p2 p3 q0 q1 q2 q3 tc
    have OP : Hid (∀ W (_ : Below wc.heap.size wc W), Calls Tryz.prog 73 #[.slice Aa za.length ca, .slice Ab zb.length cb] W fun e w' => NOut W w' (z.natAbs - y.natAbs) e) := fun W hW => (ZA.out.next hW).hv.rsub (ZB.out.next hW).hv (by omega) (by omega) Hlt.out
    have NM : Hid (∀ (zs : List Nat) (As : Option Addr) (cs B9 : Nat) (wo W : World), Num 4294967296 zs (z.natAbs - y.natAbs) → Res wo B9 34 As cs (u32s zs) → Below wo.heap.size wo W → Calls Tryz.prog 50 #[.agg #[.bool false, .slice As zs.length cs]] W fun e w' => ZOut W w' (z + y) e) := fun zs As cs B9 wo W hz hr hW => by
     have hv := (Hv.of (K := max K J + 1) hz hr HSZ.out).next hW
     exact Zh.rnorm (K := max K J + 1) ⟨by rw [HV.out]; exact hv, by rw [HV.out]; exact HS.out⟩ (by omega)
    have BP := hi9 (ba)
    have BQ := hi9 (bb)
    have BR := hi9 br
    obtain ⟨p0, p1, _, _⟩ := BP.out.two
    obtain ⟨q0, q1, _, _⟩ := BQ.out.two
    obtain ⟨r0, r1, r2, r3⟩ := br.two
    have n1 : w.heap.size ≠ w.heap.size + 1 + 1 := by omega
    have n2 : w.heap.size + 1 + 1 ≠ w.heap.size := by omega
    clear ba bb br
    go_wp2_with fail
    go_region_held3 (fun W => W.cell? ⟨w.heap.size, 0, none⟩ = some (.bool false) ∧ W.cell? ⟨w.heap.size, 1, none⟩ = some (.slice Aa za.length ca) ∧ W.cell? ⟨w.heap.size + 1, 1, none⟩ = some (.slice Ab zb.length cb)) (go_keep) (first
     | (go_at_call 73; (with_reducible refine (OP.out _ (by repeat (first | exact br9 | exact js | exact jm | apply bdw | (refine bdn ?_ _) | (refine bal ?_ nl9 _)))).mono ?_); rintro e ws ⟨zs, As, cs, rfl, hzs, hrs, hbs⟩; have js : Below wc.heap.size wc ws := bst (by repeat (first | exact br9 | exact js | exact jm | apply bdw | (refine bdn ?_ _) | (refine bal ?_ nl9 _))) hbs nl9; obtain ⟨x0s, y0s, _, _⟩ := (BP.out.below js BP.out.lt).two; obtain ⟨x1s, y1s, _, _⟩ := (BQ.out.below js BQ.out.lt).two; obtain ⟨x2s, y2s, u2s, v2s⟩ := (BR.out.below js BR.out.lt).two)
     | (go_at_call 50; (with_reducible refine (NM.out zs As cs _ ws _ hzs hrs (by first | exact br9 | exact bdw br9)).mono ?_); rintro e wm ⟨zm, Am, cm, rfl, hzm, hrm, hbm⟩; have jm : Below wc.heap.size wc wm := bst (by repeat (first | exact br9 | exact js | exact jm | apply bdw | (refine bdn ?_ _) | (refine bal ?_ nl9 _))) hbm nl9; obtain ⟨x0m, y0m, _, _⟩ := (BP.out.below jm BP.out.lt).two; obtain ⟨x1m, y1m, _, _⟩ := (BQ.out.below jm BQ.out.lt).two; obtain ⟨x2m, y2m, u2m, v2m⟩ := (BR.out.below jm BR.out.lt).two))
    all_goals
     go_wp2_with fail
     have hlo : w.heap.size ≤ ws.heap.size := (bst kc js nl9).size
     exact zretT (bst kc jm nl9) (BR.out.below jm BR.out.lt) (by omega) hzm (hrm.mono hlo) rfl rfl rfl rfl
  ·have C1 : Hid (∀ W (_ : Below wc.heap.size wc W), Calls Tryz.prog 27 #[.slice Aa za.length ca, .slice Ab zb.length cb] W fun e w' => e = .returned (.int .i64 (cmpN z.natAbs y.natAbs)) ∧ W = w') := fun W hW => (ZA.out.next hW).hv.rcmp (ZB.out.next hW).hv (by omega) (by omega)
   obtain ⟨p0, p1, p2, p3⟩ := ba.two
   obtain ⟨q0, q1, q2, q3⟩ := bb.two
   by_cases hlt : z.natAbs < y.natAbs
   ·have HS : Hid (ivalN false (y.natAbs - z.natAbs) = z + y) := by show _ = _; simp only [ivalN] at vz vy ⊢; first | omega | (simp at vz vy ⊢; omega)
    have HV : Hid ((z + y).natAbs = y.natAbs - z.natAbs) := by show _ = _; have := HS.out; rw [← this, abs_ival]
    have HSZ : Hid (y.natAbs - z.natAbs < 4294967296 ^ (max K J + 1)) := Nat.lt_of_le_of_lt (Nat.le_trans (Nat.sub_le _ _) (Nat.le_add_left _ _)) (sum_lt_pow9 (by omega) hzl hyl)
    have tc : cmpN z.natAbs y.natAbs = -1 := by unfold cmpN; rw [if_pos hlt]
    rw [tc] at C1
    have Hlt := hi9 hlt
    clear vz vy tc hlt
    have n1 : w.heap.size ≠ w.heap.size + 1 := by omega
    have n2 : w.heap.size + 1 ≠ w.heap.size := by omega
    go_wp2_with fail
    refine (C1.out _ br9).mono ?_
    rintro e wd ⟨rfl, rfl⟩
    go_upto_region 6 with (fail)
    obtain ⟨w5, hw5⟩ : ∃ w5, w5 = ((((wc.setCell ⟨w.heap.size, 0, none⟩ (.bool false)).setCell ⟨w.heap.size, 1, none⟩ (.slice Ab zb.length cb)).setCell ⟨w.heap.size + 1, 0, none⟩ (.bool true)).setCell ⟨w.heap.size + 1, 1, none⟩ (.slice Aa za.length ca)) := ⟨_, rfl⟩
    rw [← hw5]
    obtain ⟨c0, c1, k5, br5, ra5, rb5⟩ : Blk w5 w.heap.size 25 [.bool false, .slice Ab zb.length cb] ∧ Blk w5 (w.heap.size + 1) 25 [.bool true, .slice Aa za.length ca] ∧ Below w.heap.size w w5 ∧ Blk w5 (w.heap.size + 2) 25 [.bool false, .slice none 0 0] ∧ Res w5 w.heap.size 34 Aa ca (u32s za) ∧ Res w5 w.heap.size 34 Ab cb (u32s zb) := by
     rw [hw5]
     have bb2 := (bb.far (p := ⟨w.heap.size, 0, none⟩) (by show _ ≠ w.heap.size; omega) (.bool false)).far (p := ⟨w.heap.size, 1, none⟩) (by show _ ≠ w.heap.size; omega) (.slice Ab zb.length cb)
     exact ⟨((blk_pair ba _ _).far (p := ⟨w.heap.size + 1, 0, none⟩) (by show _ ≠ w.heap.size + 1; omega) _).far (p := ⟨w.heap.size + 1, 1, none⟩) (by show _ ≠ w.heap.size + 1; omega) _, blk_pair bb2 _ _, bsc4 kc (by omega) (by omega), far4 br (by omega) (by omega), res_var2 (res_var2 RA.out ba _ _) bb2 _ _, res_var2 (res_var2 RB.out ba _ _) bb2 _ _⟩
    clear hw5 p0 p1 p2 p3 q0 q1 q2 q3 n1 n2 ba bb br C1 kc ZA ZB hlc
    have kc := k5
    have br := br5
    have hlc := kc.size
    have ZA := hi9 (zn_of NA.out ra5 la)
    have ZB := hi9 (zn_of NB.out rb5 lb)
    clear k5 br5 ra5 rb5 RA RB
    have OP : Hid (∀ W (_ : Below w5.heap.size w5 W), Calls Tryz.prog 73 #[.slice Ab zb.length cb, .slice Aa za.length ca] W fun e w' => NOut W w' (y.natAbs - z.natAbs) e) := fun W hW => (ZB.out.next hW).hv.rsub (ZA.out.next hW).hv (by omega) (by omega) (Nat.le_of_lt Hlt.out)
    have NM : Hid (∀ (zs : List Nat) (As : Option Addr) (cs B9 : Nat) (wo W : World), Num 4294967296 zs (y.natAbs - z.natAbs) → Res wo B9 34 As cs (u32s zs) → Below wo.heap.size wo W → Calls Tryz.prog 50 #[.agg #[.bool false, .slice As zs.length cs]] W fun e w' => ZOut W w' (z + y) e) := fun zs As cs B9 wo W hz hr hW => by
     have hv := (Hv.of (K := max K J + 1) hz hr HSZ.out).next hW
     exact Zh.rnorm (K := max K J + 1) ⟨by rw [HV.out]; exact hv, by rw [HV.out]; exact HS.out⟩ (by omega)
    have BP := hi9 (c0)
    have BQ := hi9 (c1)
    have BR := hi9 br
    obtain ⟨p0, p1, _, _⟩ := BP.out.two
    obtain ⟨q0, q1, _, _⟩ := BQ.out.two
    obtain ⟨r0, r1, r2, r3⟩ := br.two
    have n1 : w.heap.size ≠ w.heap.size + 1 + 1 := by omega
    have n2 : w.heap.size + 1 + 1 ≠ w.heap.size := by omega
    clear c0 c1 br
    go_wp2_with fail
    go_region_held3 (fun W => W.cell? ⟨w.heap.size, 0, none⟩ = some (.bool false) ∧ W.cell? ⟨w.heap.size, 1, none⟩ = some (.slice Ab zb.length cb) ∧ W.cell? ⟨w.heap.size + 1, 1, none⟩ = some (.slice Aa za.length ca)) (go_keep) (first
     | (go_at_call 73; (with_reducible refine (OP.out _ (by repeat (first | exact br9 | exact js | exact jm | apply bdw | (refine bdn ?_ _) | (refine bal ?_ nl9 _)))).mono ?_); rintro e ws ⟨zs, As, cs, rfl, hzs, hrs, hbs⟩; have js : Below w5.heap.size w5 ws := bst (by repeat (first | exact br9 | exact js | exact jm | apply bdw | (refine bdn ?_ _) | (refine bal ?_ nl9 _))) hbs nl9; obtain ⟨x0s, y0s, _, _⟩ := (BP.out.below js BP.out.lt).two; obtain ⟨x1s, y1s, _, _⟩ := (BQ.out.below js BQ.out.lt).two; obtain ⟨x2s, y2s, u2s, v2s⟩ := (BR.out.below js BR.out.lt).two)
     | (go_at_call 50; (with_reducible refine (NM.out zs As cs _ ws _ hzs hrs (by first | exact br9 | exact bdw br9)).mono ?_); rintro e wm ⟨zm, Am, cm, rfl, hzm, hrm, hbm⟩; have jm : Below w5.heap.size w5 wm := bst (by repeat (first | exact br9 | exact js | exact jm | apply bdw | (refine bdn ?_ _) | (refine bal ?_ nl9 _))) hbm nl9; obtain ⟨x0m, y0m, _, _⟩ := (BP.out.below jm BP.out.lt).two; obtain ⟨x1m, y1m, _, _⟩ := (BQ.out.below jm BQ.out.lt).two; obtain ⟨x2m, y2m, u2m, v2m⟩ := (BR.out.below jm BR.out.lt).two))
    all_goals
     go_wp2_with fail
     have hlo : w.heap.size ≤ ws.heap.size := (bst kc js nl9).size
     exact zretT (bst kc jm nl9) (BR.out.below jm BR.out.lt) (by omega) hzm (hrm.mono hlo) rfl rfl rfl rfl
   ·have HS : Hid (ivalN true (z.natAbs - y.natAbs) = z + y) := by show _ = _; simp only [ivalN] at vz vy ⊢; first | omega | (simp at vz vy ⊢; omega)
    have HV : Hid ((z + y).natAbs = z.natAbs - y.natAbs) := by show _ = _; have := HS.out; rw [← this, abs_ival]
    have HSZ : Hid (z.natAbs - y.natAbs < 4294967296 ^ (max K J + 1)) := Nat.lt_of_le_of_lt (Nat.le_trans (Nat.sub_le _ _) (Nat.le_add_right _ _)) (sum_lt_pow9 (by omega) hzl hyl)
    obtain ⟨cv, hcv⟩ : ∃ v, v = cmpN z.natAbs y.natAbs := ⟨_, rfl⟩
    have tc : decide (cv < 0) = false := by rw [hcv]; unfold cmpN; rw [if_neg hlt]; split <;> rfl
    rw [← hcv] at C1
    have Hlt : Hid (y.natAbs ≤ z.natAbs) := by show _ ≤ _; omega
    clear vz vy hlt hcv
    go_wp2_with fail
    refine (C1.out _ br9).mono ?_
    rintro e wd ⟨rfl, rfl⟩
    go_upto_region 6 with (simp only [])
    clear C1 p0 p1 p2 p3 q0 q1 q2 q3 tc
    have OP : Hid (∀ W (_ : Below wc.heap.size wc W), Calls Tryz.prog 73 #[.slice Aa za.length ca, .slice Ab zb.length cb] W fun e w' => NOut W w' (z.natAbs - y.natAbs) e) := fun W hW => (ZA.out.next hW).hv.rsub (ZB.out.next hW).hv (by omega) (by omega) Hlt.out
    have NM : Hid (∀ (zs : List Nat) (As : Option Addr) (cs B9 : Nat) (wo W : World), Num 4294967296 zs (z.natAbs - y.natAbs) → Res wo B9 34 As cs (u32s zs) → Below wo.heap.size wo W → Calls Tryz.prog 50 #[.agg #[.bool true, .slice As zs.length cs]] W fun e w' => ZOut W w' (z + y) e) := fun zs As cs B9 wo W hz hr hW => by
     have hv := (Hv.of (K := max K J + 1) hz hr HSZ.out).next hW
     exact Zh.rnorm (K := max K J + 1) ⟨by rw [HV.out]; exact hv, by rw [HV.out]; exact HS.out⟩ (by omega)
    have BP := hi9 (ba)
    have BQ := hi9 (bb)
    have BR := hi9 br
    obtain ⟨p0, p1, _, _⟩ := BP.out.two
    obtain ⟨q0, q1, _, _⟩ := BQ.out.two
    obtain ⟨r0, r1, r2, r3⟩ := br.two
    have n1 : w.heap.size ≠ w.heap.size + 1 + 1 := by omega
    have n2 : w.heap.size + 1 + 1 ≠ w.heap.size := by omega
    clear ba bb br
    go_wp2_with fail
    go_region_held3 (fun W => W.cell? ⟨w.heap.size, 0, none⟩ = some (.bool true) ∧ W.cell? ⟨w.heap.size, 1, none⟩ = some (.slice Aa za.length ca) ∧ W.cell? ⟨w.heap.size + 1, 1, none⟩ = some (.slice Ab zb.length cb)) (go_keep) (first
     | (go_at_call 73; (with_reducible refine (OP.out _ (by repeat (first | exact br9 | exact js | exact jm | apply bdw | (refine bdn ?_ _) | (refine bal ?_ nl9 _)))).mono ?_); rintro e ws ⟨zs, As, cs, rfl, hzs, hrs, hbs⟩; have js : Below wc.heap.size wc ws := bst (by repeat (first | exact br9 | exact js | exact jm | apply bdw | (refine bdn ?_ _) | (refine bal ?_ nl9 _))) hbs nl9; obtain ⟨x0s, y0s, _, _⟩ := (BP.out.below js BP.out.lt).two; obtain ⟨x1s, y1s, _, _⟩ := (BQ.out.below js BQ.out.lt).two; obtain ⟨x2s, y2s, u2s, v2s⟩ := (BR.out.below js BR.out.lt).two)
     | (go_at_call 50; (with_reducible refine (NM.out zs As cs _ ws _ hzs hrs (by first | exact br9 | exact bdw br9)).mono ?_); rintro e wm ⟨zm, Am, cm, rfl, hzm, hrm, hbm⟩; have jm : Below wc.heap.size wc wm := bst (by repeat (first | exact br9 | exact js | exact jm | apply bdw | (refine bdn ?_ _) | (refine bal ?_ nl9 _))) hbm nl9; obtain ⟨x0m, y0m, _, _⟩ := (BP.out.below jm BP.out.lt).two; obtain ⟨x1m, y1m, _, _⟩ := (BQ.out.below jm BQ.out.lt).two; obtain ⟨x2m, y2m, u2m, v2m⟩ := (BR.out.below jm BR.out.lt).two))
    all_goals
     go_wp2_with fail
     have hlo : w.heap.size ≤ ws.heap.size := (bst kc js nl9).size
     exact zretT (bst kc jm nl9) (BR.out.below jm BR.out.lt) (by omega) hzm (hrm.mono hlo) rfl rfl rfl rfl
  ·have HS : Hid (ivalN true (z.natAbs + y.natAbs) = z + y) := by show _ = _; simp only [ivalN] at vz vy ⊢; first | omega | (simp at vz vy ⊢; omega)
   have HV : Hid ((z + y).natAbs = z.natAbs + y.natAbs) := by show _ = _; have := HS.out; rw [← this, abs_ival]
   have HSZ : Hid (z.natAbs + y.natAbs < 4294967296 ^ (max K J + 1)) := sum_lt_pow9 (by omega) hzl hyl
   clear vz vy
   have OP : Hid (∀ W (_ : Below wc.heap.size wc W), Calls Tryz.prog 25 #[.slice Aa za.length ca, .slice Ab zb.length cb] W fun e w' => NOut W w' (z.natAbs + y.natAbs) e) := fun W hW => (ZA.out.next hW).hv.radd (ZB.out.next hW).hv (by omega) (by omega)
   have NM : Hid (∀ (zs : List Nat) (As : Option Addr) (cs B9 : Nat) (wo W : World), Num 4294967296 zs (z.natAbs + y.natAbs) → Res wo B9 34 As cs (u32s zs) → Below wo.heap.size wo W → Calls Tryz.prog 50 #[.agg #[.bool true, .slice As zs.length cs]] W fun e w' => ZOut W w' (z + y) e) := fun zs As cs B9 wo W hz hr hW => by
    have hv := (Hv.of (K := max K J + 1) hz hr HSZ.out).next hW
    exact Zh.rnorm (K := max K J + 1) ⟨by rw [HV.out]; exact hv, by rw [HV.out]; exact HS.out⟩ (by omega)
   have BP := hi9 (ba)
   have BQ := hi9 (bb)
   have BR := hi9 br
   obtain ⟨p0, p1, _, _⟩ := BP.out.two
   obtain ⟨q0, q1, _, _⟩ := BQ.out.two
   obtain ⟨r0, r1, r2, r3⟩ := br.two
   have n1 : w.heap.size ≠ w.heap.size + 1 + 1 := by omega
   have n2 : w.heap.size + 1 + 1 ≠ w.heap.size := by omega
   clear ba bb br
   go_wp2_with fail
   go_region_held3 (fun W => W.cell? ⟨w.heap.size, 0, none⟩ = some (.bool true) ∧ W.cell? ⟨w.heap.size, 1, none⟩ = some (.slice Aa za.length ca) ∧ W.cell? ⟨w.heap.size + 1, 1, none⟩ = some (.slice Ab zb.length cb)) (go_keep) (first
    | (go_at_call 25; (with_reducible refine (OP.out _ (by repeat (first | exact br9 | exact js | exact jm | apply bdw | (refine bdn ?_ _) | (refine bal ?_ nl9 _)))).mono ?_); rintro e ws ⟨zs, As, cs, rfl, hzs, hrs, hbs⟩; have js : Below wc.heap.size wc ws := bst (by repeat (first | exact br9 | exact js | exact jm | apply bdw | (refine bdn ?_ _) | (refine bal ?_ nl9 _))) hbs nl9; obtain ⟨x0s, y0s, _, _⟩ := (BP.out.below js BP.out.lt).two; obtain ⟨x1s, y1s, _, _⟩ := (BQ.out.below js BQ.out.lt).two; obtain ⟨x2s, y2s, u2s, v2s⟩ := (BR.out.below js BR.out.lt).two)
    | (go_at_call 50; (with_reducible refine (NM.out zs As cs _ ws _ hzs hrs (by first | exact br9 | exact bdw br9)).mono ?_); rintro e wm ⟨zm, Am, cm, rfl, hzm, hrm, hbm⟩; have jm : Below wc.heap.size wc wm := bst (by repeat (first | exact br9 | exact js | exact jm | apply bdw | (refine bdn ?_ _) | (refine bal ?_ nl9 _))) hbm nl9; obtain ⟨x0m, y0m, _, _⟩ := (BP.out.below jm BP.out.lt).two; obtain ⟨x1m, y1m, _, _⟩ := (BQ.out.below jm BQ.out.lt).two; obtain ⟨x2m, y2m, u2m, v2m⟩ := (BR.out.below jm BR.out.lt).two))
   all_goals
    go_wp2_with fail
    have hlo : w.heap.size ≤ ws.heap.size := (bst kc js nl9).size
    exact zretT (bst kc jm nl9) (BR.out.below jm BR.out.lt) (by omega) hzm (hrm.mono hlo) rfl rfl rfl rfl
end
end Go.Proofs.YtcjgilagldbjnaaGreatDoor
