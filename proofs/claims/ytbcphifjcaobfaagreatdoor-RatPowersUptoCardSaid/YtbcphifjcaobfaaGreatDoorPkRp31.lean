/- The contract of rat.lowest. -/
import Derived.Test.YtbcphifjcaobfaaGreatDoorPkRp30
namespace Go.Proofs.YtbcphifjcaobfaaGreatDoor
open Go.RowKit
def lowG (z y : Int) : Nat := Int.gcd (upD y) (upN z y)
def lowN (z y : Int) : Int := Int.tdiv (upN z y) (lowG z y : Nat)
def lowD (z y : Int) : Int := Int.tdiv (upD y) (lowG z y : Nat)
theorem low_parts {N D : Int} (hD : D ≠ 0) : 0 < Int.gcd D N ∧ Int.tmod N (Int.gcd D N : Nat) = 0 ∧ Int.tmod D (Int.gcd D N : Nat) = 0 :=
 ⟨Int.gcd_pos_of_ne_zero_left _ hD, Int.tmod_eq_zero_of_dvd (Int.gcd_dvd_right ..), Int.tmod_eq_zero_of_dvd (Int.gcd_dvd_left ..)⟩
theorem ze_dvd9 {z c : Int} (hc : c ≠ 0) (h : Int.tmod z c = 0) : exQ z c = Int.tdiv z c ∧ exE z c = 0 := by
 unfold exQ exE
 rw [if_neg hc, if_pos h, if_neg hc, if_pos h]
 exact ⟨rfl, rfl⟩
theorem tdiv_le9 (z : Int) (c : Nat) : (Int.tdiv z (c : Int)).natAbs ≤ z.natAbs := by
 rw [Int.natAbs_tdiv]; exact Nat.div_le_self _ _
theorem gcd_pair9 (e1 e2 : ZE1) : gcdTo [e1, e2] 2 = Int.gcd e1.z e2.z := by
 unfold gcdTo
 simp only [List.take, List.foldl, Nat.gcd_zero_left]
 rfl
section
variable {w : World} {g g2 : Bool} {A A2 : Option Addr} {c c2 K : Nat} {xs ys : List Nat} {z y : Int}
theorem zgcd_pair9 {W : World} (h : Zh W g A c xs z K) (h2 : Zh W g2 A2 c2 ys y K) (hK : K ≤ 67108864) (hT : Tab64 W) (hTB : 1 < W.heap.size) :
  Calls Tryz.prog 101 #[.slice (some ⟨W.heap.size, 0, none⟩) 2 2] (W.alloc (.cells #[.bool g, .slice A xs.length c, .bool g2, .slice A2 ys.length c2] 25)) fun e w' => ZOut (W.alloc (.cells #[.bool g, .slice A xs.length c, .bool g2, .slice A2 ys.length c2] 25)) w' (Int.gcd z y : Nat) e := by
 have k := bel_one W (.cells #[.bool g, .slice A xs.length c, .bool g2, .slice A2 ys.length c2] 25)
 have hb : Blk (W.alloc (.cells #[.bool g, .slice A xs.length c, .bool g2, .slice A2 ys.length c2] 25)) W.heap.size 25 [.bool g, .slice A xs.length c, .bool g2, .slice A2 ys.length c2] := Blk.new_ rfl
 have hl : ZL (W.alloc (.cells #[.bool g, .slice A xs.length c, .bool g2, .slice A2 ys.length c2] 25)) K (some ⟨W.heap.size, 0, none⟩) [⟨g, A, c, xs, z⟩, ⟨g2, A2, c2, ys, y⟩] := fun j hj => by
  match j, hj with
  | 0, _ => exact ⟨W.heap.size, 0, rfl, hb.lt, hb.cell 0, hb.cell 1, h.next k⟩
  | 1, _ => exact ⟨W.heap.size, 0, rfl, hb.lt, hb.cell 2, hb.cell 3, h2.next k⟩
 have h9 := zgcd_any (c := 2) [⟨g, A, c, xs, z⟩, ⟨g2, A2, c2, ys, y⟩] hl hK (by simp) (hT.below k hTB) (Nat.lt_of_lt_of_le hTB k.size)
 have e : gcdTo [⟨g, A, c, xs, z⟩, ⟨g2, A2, c2, ys, y⟩] [(⟨g, A, c, xs, z⟩ : ZE1), ⟨g2, A2, c2, ys, y⟩].length = Int.gcd z y := gcd_pair9 _ _
 rw [e] at h9
 exact h9
theorem blk_zzr (w : World) (x0 y0 x1 y1 a b c d : Value) :
  Blk (((w.alloc (.cells #[x0, y0] 25)).alloc (.cells #[x1, y1] 25)).alloc (.cells #[a, b, c, d] 27)) w.heap.size 25 [x0, y0] ∧
  Blk (((w.alloc (.cells #[x0, y0] 25)).alloc (.cells #[x1, y1] 25)).alloc (.cells #[a, b, c, d] 27)) (w.heap.size + 1) 25 [x1, y1] ∧
  Blk (((w.alloc (.cells #[x0, y0] 25)).alloc (.cells #[x1, y1] 25)).alloc (.cells #[a, b, c, d] 27)) (w.heap.size + 1 + 1) 27 [a, b, c, d] := by
 obtain ⟨h0, h1⟩ := blk_pair2 w x0 y0 x1 y1
 refine ⟨h0.heapAlloc _, h1.heapAlloc _, ?_⟩
 have h := Blk.new_ (w := (w.alloc (.cells #[x0, y0] 25)).alloc (.cells #[x1, y1] 25)) (t := 27) (cs := #[a, b, c, d]) (vs := [a, b, c, d]) rfl
 simpa using h
set_option maxHeartbeats 12800000 in
theorem lowest_any (h : Zh w g A c xs z K) (h2 : Zh w g2 A2 c2 ys y K) (hK : K ≤ 33554431) (hy : y ≠ 0) (hT : Tab64 w) (hTB : 1 < w.heap.size) : Calls Tryz.prog 60 #[.agg #[.bool g, .slice A xs.length c], .agg #[.bool g2, .slice A2 ys.length c2]] w fun e w' => ROut w w' (lowN z y) (lowD z y) e := by
 obtain ⟨b0, b1, b2⟩ := blk_zzr w (.bool g) (.slice A xs.length c) (.bool g2) (.slice A2 ys.length c2) (.bool false) (.slice none 0 0) (.bool false) (.slice none 0 0)
 have k0 := bel_three w (.cells #[.bool g, .slice A xs.length c] 25) (.cells #[.bool g2, .slice A2 ys.length c2] 25) (.cells #[.bool false, .slice none 0 0, .bool false, .slice none 0 0] 27)
 unfold lowN lowD lowG
 obtain ⟨N, hN⟩ : ∃ N, N = upN z y := ⟨_, rfl⟩
 obtain ⟨D, hDD⟩ : ∃ D, D = upD y := ⟨_, rfl⟩
 have HD : Hid (D ≠ 0) := by show _ ≠ _; rw [hDD]; unfold upD; omega
 rw [← hN, ← hDD]
 obtain ⟨cg, hcg⟩ : ∃ v, v = Int.gcd D N := ⟨_, rfl⟩
 rw [← hcg]
 obtain ⟨nn, hnn⟩ : ∃ v, v = Int.tdiv N cg := ⟨_, rfl⟩
 obtain ⟨dd, hdd⟩ : ∃ v, v = Int.tdiv D cg := ⟨_, rfl⟩
 rw [← hnn, ← hdd]
 have Hcg : Hid (cg = Int.gcd D N) := hcg
 have Hnn : Hid (nn = Int.tdiv N cg) := hnn
 have Hdd : Hid (dd = Int.tdiv D cg) := hdd
 clear hcg hnn hdd
 cases g2 with
 | false =>
  obtain ⟨e1, e2⟩ := up_false (z := z) h2.sg
  rw [e1] at hN
  rw [e2] at hDD
  subst hN hDD
  obtain ⟨p0, p1, _, _⟩ := b0.two
  obtain ⟨q0, q1, _, _⟩ := b1.two
  go_enter Tryz.func60, Tryz.ntmps60
  go_upto_region 1 with fail
  obtain ⟨w0, hw0⟩ : ∃ v, v = ((w.alloc (.cells #[.bool g, .slice A xs.length c] 25)).alloc (.cells #[.bool false, .slice A2 ys.length c2] 25)).alloc (.cells #[.bool false, .slice none 0 0, .bool false, .slice none 0 0] 27) := ⟨_, rfl⟩
  rw [← hw0] at b0 b1 b2 k0 p0 p1 q0 q1 ⊢
  clear hw0
  go_wp2_with fail
  refine (up_no (w := w0)).mono ?_
  rintro e w1 ⟨rfl, hb1⟩
  have k1 := bst k0 hb1 nl9
  replace b0 := b0.below hb1 b0.lt
  replace b1 := b1.below hb1 b1.lt
  replace b2 := b2.below hb1 b2.lt
  clear p0 p1 q0 q1 hb1 k0
  obtain ⟨p0, p1, f0, f1⟩ := b0.two
  obtain ⟨q0, q1, f2, f3⟩ := b1.two
  have bN := (((blk_pair b0 (.bool g) (.slice A xs.length c)).far (p := ⟨w.heap.size + 1, 0, none⟩) (by show _ ≠ _; simp <;> omega) (.bool false)).far (p := ⟨w.heap.size + 1, 1, none⟩) (by show _ ≠ _; simp <;> omega) (.slice A2 ys.length c2))
  have bD := blk_pair ((b1.far (p := ⟨w.heap.size, 0, none⟩) (by show _ ≠ _; simp <;> omega) (.bool g)).far (p := ⟨w.heap.size, 1, none⟩) (by show _ ≠ _; simp <;> omega) (.slice A xs.length c)) (.bool false) (.slice A2 ys.length c2)
  have bR := (((b2.far (p := ⟨w.heap.size, 0, none⟩) (by show _ ≠ _; simp <;> omega) (.bool g)).far (p := ⟨w.heap.size, 1, none⟩) (by show _ ≠ _; simp <;> omega) (.slice A xs.length c)).far (p := ⟨w.heap.size + 1, 0, none⟩) (by show _ ≠ _; simp <;> omega) (.bool false)).far (p := ⟨w.heap.size + 1, 1, none⟩) (by show _ ≠ _; simp <;> omega) (.slice A2 ys.length c2)
  have kv := bsc4 (g := w.heap.size) (h := w.heap.size + 1) (u1 := .bool g) (u2 := .slice A xs.length c) (u3 := .bool false) (u4 := .slice A2 ys.length c2) k1 nl9 (by omega)
  go_upto_region 2 with fail
  obtain ⟨v, hv⟩ : ∃ v, v = (((w1.setCell ⟨w.heap.size, 0, none⟩ (.bool g)).setCell ⟨w.heap.size, 1, none⟩ (.slice A xs.length c)).setCell ⟨w.heap.size + 1, 0, none⟩ (.bool false)).setCell ⟨w.heap.size + 1, 1, none⟩ (.slice A2 ys.length c2) := ⟨_, rfl⟩
  rw [← hv] at bN bD bR kv ⊢
  clear hv p0 p1 q0 q1 f0 f1 f2 f3 b0 b1 b2 k1
  have zN := h.next kv
  have zD := h2.next kv
  have hD9 : D ≠ 0 := HD.out
  obtain ⟨gp, e3, e4⟩ := low_parts (N := N) hD9
  have hgl : Int.gcd D N < 4294967296 ^ K := Nat.lt_of_le_of_lt (Nat.le_of_dvd (by omega) (Nat.gcd_dvd_left ..)) zD.lt
  have hn1 := Nat.lt_of_le_of_lt (tdiv_le9 N (Int.gcd D N)) zN.lt
  have hn2 := Nat.lt_of_le_of_lt (tdiv_le9 D (Int.gcd D N)) zD.lt
  have GC := hi9 (zgcd_pair9 zD zN (by omega) (hT.below kv hTB) (Nat.lt_of_lt_of_le hTB kv.size))
  have hcg := Hcg.out
  have hnn := Hnn.out
  have hdd := Hdd.out
  rw [← hcg] at gp e3 e4 hgl hn1 hn2 GC
  rw [← hnn] at hn1
  rw [← hdd] at hn2
  have hc0 : (cg : Int) ≠ 0 := by omega
  have EXN : Hid (∀ (zg : List Nat) (Ag : Option Addr) (cq Bg : Nat) (wg W : World), Num 4294967296 zg (cg : Int).natAbs → Res wg Bg 50 Ag cq (u32s zg) → Below wg.heap.size wg W → Below v.heap.size v W → Calls Tryz.prog 95 #[.agg #[.bool g, .slice A xs.length c], .agg #[.bool (isNeg (cg : Nat)), .slice Ag zg.length cq]] W fun e w' => ZE W w' nn 0 e) := fun zg Ag cq Bg wg W n1 r1 h1 hW => by
   have h9 := (zN.next hW).exact ((Zh.of (K := K) (z := (cg : Nat)) n1 r1 (by rw [Int.natAbs_natCast]; exact hgl)).next h1) (by omega) (by omega)
   rw [(ze_dvd9 hc0 e3).1, (ze_dvd9 hc0 e3).2, ← hnn] at h9
   exact h9
  have IOz : Hid (∀ (zg : List Nat) (Ag : Option Addr) (cq Bg : Nat) (wg W : World), Num 4294967296 zg (cg : Int).natAbs → Res wg Bg 50 Ag cq (u32s zg) → Below wg.heap.size wg W → Calls Tryz.prog 83 #[.agg #[.bool (isNeg (cg : Nat)), .slice Ag zg.length cq]] W fun e w' => e = .returned (.bool (decide ((cg : Int) = 1))) ∧ Below W.heap.size W w') := fun zg Ag cq Bg wg W n1 r1 h1 =>
   isone_any ((Zh.of (K := K) (z := (cg : Nat)) n1 r1 (by rw [Int.natAbs_natCast]; exact hgl)).next h1) (by omega)
  clear hcg hnn hdd
  obtain ⟨p0, p1, _, _⟩ := bN.two
  obtain ⟨q0, q1, _, _⟩ := bD.two
  have iS := bel_one v (.cells #[.bool false, .slice A2 ys.length c2, .bool g, .slice A xs.length c] 25)
  go_wp2_with fail
  refine GC.out.mono ?_
  rintro e w3 ⟨zg, Ag, cq, rfl, ng, rg, hb3⟩
  have i3 := bst iS hb3 nl9
  have b3N := bN.below i3 bN.lt
  have b3D := bD.below i3 bD.lt
  have b3R := bR.below i3 bR.lt
  have bg := blk_one w3 (.bool (isNeg (cg : Nat))) (.slice Ag zg.length cq)
  have j4 := bel_one w3 (.cells #[.bool (isNeg (cg : Nat)), .slice Ag zg.length cq] 25)
  replace b3N := b3N.heapAlloc (.cells #[.bool (isNeg (cg : Nat)), .slice Ag zg.length cq] 25)
  replace b3D := b3D.heapAlloc (.cells #[.bool (isNeg (cg : Nat)), .slice Ag zg.length cq] 25)
  replace b3R := b3R.heapAlloc (.cells #[.bool (isNeg (cg : Nat)), .slice Ag zg.length cq] 25)
  clear p0 p1 q0 q1 GC iS hb3
  go_upto_region 3 with fail
  obtain ⟨w4, hw4⟩ : ∃ v, v = w3.alloc (.cells #[.bool (isNeg (cg : Nat)), .slice Ag zg.length cq] 25) := ⟨_, rfl⟩
  rw [← hw4] at bg j4 b3N b3D b3R ⊢
  have i4 := bst i3 j4 nl9
  have o1 : w.heap.size ≠ w3.heap.size := by have := bN.lt; have := i3.size; omega
  have o2 : w.heap.size + 1 ≠ w3.heap.size := by have := bD.lt; have := i3.size; omega
  have o3 : w.heap.size + 1 + 1 ≠ w3.heap.size := by have := bR.lt; have := i3.size; omega
  obtain ⟨g5, hg5⟩ : ∃ g, g = w3.heap.size := ⟨_, rfl⟩
  rw [← hg5] at bg o1 o2 o3 ⊢
  clear hw4 hg5
  obtain ⟨s0, s1, _, _⟩ := bg.two
  go_wp2_with fail
  refine (IOz.out zg Ag cq _ w3 w4 ng rg j4).mono ?_
  rintro e w5 ⟨rfl, hb5⟩
  have i5 := bst i4 hb5 nl9
  have j5 := bst j4 hb5 nl9
  replace b3N := b3N.below hb5 b3N.lt
  replace b3D := b3D.below hb5 b3D.lt
  replace b3R := b3R.below hb5 b3R.lt
  replace bg := bg.below hb5 bg.lt
  clear s0 s1 IOz hb5 i4 j4
  by_cases hone : (cg : Int) = 1
  ·have t1 : decide ((cg : Int) = 1) = true := decide_eq_true hone
   have en : nn = N := by rw [Hnn.out, hone, Int.tdiv_one]
   have ed : dd = D := by rw [Hdd.out, hone, Int.tdiv_one]
   have NA : Hid (∀ W (_ : Below v.heap.size v W), Calls Tryz.prog 102 #[.agg #[.bool g, .slice A xs.length c]] W fun e w' => ZOut W w' N e) := fun W hW => (zN.next hW).norm (by omega)
   have NB : Hid (∀ W (_ : Below v.heap.size v W), Calls Tryz.prog 102 #[.agg #[.bool false, .slice A2 ys.length c2]] W fun e w' => ZOut W w' D e) := fun W hW => (zD.next hW).norm (by omega)
   have HEN := hi9 en
   have HED := hi9 ed
   rw [t1]
   obtain ⟨p0, p1, _, _⟩ := b3N.two
   obtain ⟨q0, q1, _, _⟩ := b3D.two
   clear EXN hone t1 en ed hn1 hn2 hc0 e3 e4 gp hgl zN zD
   go_upto_region 7 with fail
   go_region_with (first
    | (go_at_call_of 102 (Value.agg #[Value.bool g, Value.slice A xs.length c]); (with_reducible refine (NA.out _ (bst i5 (by repeat (first | exact br9 | apply bdw | (refine bdn ?_ _))) nl9)).mono ?_); rintro e w6 ⟨zs, A1, c1, rfl, hz1, hr1, hb6⟩; have m1 : Below w5.heap.size w5 w6 := bst (by repeat (first | exact br9 | apply bdw | (refine bdn ?_ _))) hb6 nl9; obtain ⟨qa0, qa1, _, _⟩ := (b3D.below m1 b3D.lt).two)
    | (go_at_call 102; (with_reducible refine (NB.out _ (bst i5 (by repeat (first | exact br9 | exact m1 | apply bdw | (refine bdn ?_ _))) nl9)).mono ?_); rintro e w7 ⟨zs2, A3, c3, rfl, hz2, hr2, hb7⟩; have m2 : Below w5.heap.size w5 w7 := bst (by repeat (first | exact br9 | exact m1 | apply bdw | (refine bdn ?_ _))) hb7 nl9; have i2 : Below w6.heap.size w6 w7 := bst (by repeat (first | exact br9 | apply bdw | (refine bdn ?_ _))) hb7 nl9; have bR7 := b3R.below m2 b3R.lt; obtain ⟨_, _, _, _, f0, f1, f2, f3⟩ := bR7.four))
   all_goals
    go_wp2_with fail
    have kw : Below w.heap.size w w7 := bst kv (bst i5 m2 nl9) nl9
    have s1 := kv.size
    have s2 := i5.size
    have s3 := m1.size
    have r1 : Res w7 w.heap.size 50 A1 c1 (u32s zs) := (hr1.below i2 nl9).mono (by first | omega | (simp; omega))
    have r2 : Res w7 w.heap.size 50 A3 c3 (u32s zs2) := hr2.mono (by first | omega | (simp; omega))
    exact rret (n := nn) (d := dd) kw bR7 (by omega) (by rw [HEN.out]; exact hz1) (by rw [HED.out]; exact hz2) r1 r2 (by rw [HEN.out]) (by rw [HED.out]) rfl rfl rfl
  ·have t1 : decide ((cg : Int) = 1) = false := decide_eq_false hone
   rw [t1]
   have EXD : Hid (∀ (zg : List Nat) (Ag : Option Addr) (cq Bg : Nat) (wg W : World), Num 4294967296 zg (cg : Int).natAbs → Res wg Bg 50 Ag cq (u32s zg) → Below wg.heap.size wg W → Zh W false A2 c2 ys D K → Calls Tryz.prog 95 #[.agg #[.bool false, .slice A2 ys.length c2], .agg #[.bool (isNeg (cg : Nat)), .slice Ag zg.length cq]] W fun e w' => ZE W w' dd 0 e) := fun zg Ag cq Bg wg W n1 r1 h1 hW => by
    have h9 := hW.exact ((Zh.of (K := K) (z := (cg : Nat)) n1 r1 (by rw [Int.natAbs_natCast]; exact hgl)).next h1) (by omega) (by omega)
    rw [(ze_dvd9 hc0 e4).1, (ze_dvd9 hc0 e4).2, ← Hdd.out] at h9
    exact h9
   obtain ⟨p0, p1, f0, f1⟩ := b3N.two
   obtain ⟨s0, s1, _, _⟩ := bg.two
   clear hone t1 gp e3 e4 hc0
   go_wp2_with fail
   refine (EXN.out zg Ag cq _ w3 w5 ng rg j5 i5).mono ?_
   rintro e w6 ⟨zs, A1, c1, rfl, ns, rs, hb6⟩
   have i6 := bst i5 hb6 nl9
   have j6 := bst j5 hb6 nl9
   have rg6 := rg.below j6 nl9
   replace b3N := b3N.below hb6 b3N.lt
   replace b3D := b3D.below hb6 b3D.lt
   replace b3R := b3R.below hb6 b3R.lt
   replace bg := bg.below hb6 bg.lt
   have hs5 := i5.size
   clear p0 p1 f0 f1 s0 s1 EXN hb6 i5 j5 j6
   obtain ⟨_, _, f0, f1⟩ := b3N.two
   have rs7 := res_var2 rs b3N (.bool (isNeg nn)) (.slice A1 zs.length c1)
   have rg7 := res_var2 rg6 b3N (.bool (isNeg nn)) (.slice A1 zs.length c1)
   have b7N := blk_pair b3N (.bool (isNeg nn)) (.slice A1 zs.length c1)
   have b7D := (b3D.far (p := ⟨w.heap.size, 0, none⟩) (by show _ ≠ _; simp <;> omega) (.bool (isNeg nn))).far (p := ⟨w.heap.size, 1, none⟩) (by show _ ≠ _; simp <;> omega) (.slice A1 zs.length c1)
   have b7R := (b3R.far (p := ⟨w.heap.size, 0, none⟩) (by show _ ≠ _; simp <;> omega) (.bool (isNeg nn))).far (p := ⟨w.heap.size, 1, none⟩) (by show _ ≠ _; simp <;> omega) (.slice A1 zs.length c1)
   have b7g := (bg.far (p := ⟨w.heap.size, 0, none⟩) (Ne.symm o1) (.bool (isNeg nn))).far (p := ⟨w.heap.size, 1, none⟩) (Ne.symm o1) (.slice A1 zs.length c1)
   have k7 := bsc (i := 1) (bsc (i := 0) (g := w.heap.size) (bst kv i6 nl9) nl9 (.bool (isNeg nn))) (Nat.le_refl w.heap.size) (.slice A1 zs.length c1)
   have ZDN := h2.next k7
   go_upto_region 5 with fail
   obtain ⟨w7, hw7⟩ : ∃ u, u = (w6.setCell ⟨w.heap.size, 0, none⟩ (.bool (isNeg nn))).setCell ⟨w.heap.size, 1, none⟩ (.slice A1 zs.length c1) := ⟨_, rfl⟩
   rw [← hw7] at rs7 rg7 b7N b7D b7R b7g k7 ZDN ⊢
   clear hw7 f0 f1 b3N b3D b3R bg rs rg6
   obtain ⟨q0, q1, _, _⟩ := b7D.two
   obtain ⟨s0, s1, _, _⟩ := b7g.two
   go_wp2_with fail
   refine (EXD.out zg Ag cq _ w7 w7 ng rg7 br9 ZDN).mono ?_
   rintro e w8 ⟨zs2, A3, c3, rfl, nd, rd, hb8⟩
   have k8 := bst k7 hb8 nl9
   have s7 := k7.size
   have r1 : Res w8 w.heap.size 50 A1 c1 (u32s zs) := (rs7.below hb8 nl9).mono (by have := kv.size; have := i6.size; omega)
   have r2 : Res w8 w.heap.size 50 A3 c3 (u32s zs2) := rd.mono s7
   replace b7N := b7N.below hb8 b7N.lt
   replace b7D := b7D.below hb8 b7D.lt
   replace b7R := b7R.below hb8 b7R.lt
   clear q0 q1 s0 s1 EXD hb8 b7g rs7 rg7 k7 s7 ZDN rd
   obtain ⟨_, _, f2, f3⟩ := b7D.two
   have r1' := res_var2 r1 b7D (.bool (isNeg dd)) (.slice A3 zs2.length c3)
   have r2' := res_var2 r2 b7D (.bool (isNeg dd)) (.slice A3 zs2.length c3)
   have b9N := (b7N.far (p := ⟨w.heap.size + 1, 0, none⟩) (by show _ ≠ _; simp <;> omega) (.bool (isNeg dd))).far (p := ⟨w.heap.size + 1, 1, none⟩) (by show _ ≠ _; simp <;> omega) (.slice A3 zs2.length c3)
   have b9D := blk_pair b7D (.bool (isNeg dd)) (.slice A3 zs2.length c3)
   have b9R := (b7R.far (p := ⟨w.heap.size + 1, 0, none⟩) (by show _ ≠ _; simp <;> omega) (.bool (isNeg dd))).far (p := ⟨w.heap.size + 1, 1, none⟩) (by show _ ≠ _; simp <;> omega) (.slice A3 zs2.length c3)
   have k9 := bsc (i := 1) (bsc (i := 0) (g := w.heap.size + 1) k8 (by omega) (.bool (isNeg dd))) (by omega : w.heap.size ≤ w.heap.size + 1) (.slice A3 zs2.length c3)
   go_upto_region 6 with fail
   obtain ⟨w9, hw9⟩ : ∃ u, u = (w8.setCell ⟨w.heap.size + 1, 0, none⟩ (.bool (isNeg dd))).setCell ⟨w.heap.size + 1, 1, none⟩ (.slice A3 zs2.length c3) := ⟨_, rfl⟩
   rw [← hw9] at r1' r2' b9N b9D b9R k9 ⊢
   clear hw9 f2 f3 b7N b7D b7R r1 r2 k8
   obtain ⟨p0, p1, _, _⟩ := b9N.two
   obtain ⟨q0, q1, _, _⟩ := b9D.two
   obtain ⟨_, _, _, _, f0, f1, f2, f3⟩ := b9R.four
   go_wp2_with fail
   exact rret k9 b9R (by omega) ns nd r1' r2' rfl rfl rfl rfl rfl
 | true =>
  obtain ⟨e1, e2⟩ := up_true (z := z) h2.sg hy
  rw [e1] at hN
  rw [e2] at hDD
  obtain ⟨p0, p1, _, _⟩ := b0.two
  obtain ⟨q0, q1, _, _⟩ := b1.two
  go_enter Tryz.func60, Tryz.ntmps60
  go_upto_region 1 with fail
  obtain ⟨w0, hw0⟩ : ∃ v, v = ((w.alloc (.cells #[.bool g, .slice A xs.length c] 25)).alloc (.cells #[.bool true, .slice A2 ys.length c2] 25)).alloc (.cells #[.bool false, .slice none 0 0, .bool false, .slice none 0 0] 27) := ⟨_, rfl⟩
  rw [← hw0] at b0 b1 b2 k0 p0 p1 q0 q1 ⊢
  clear hw0
  have UP := up_yes (h.next k0) (h2.next k0) rfl (by omega) (by omega)
  rw [← hN, ← hDD] at UP
  have hNl : N.natAbs < 4294967296 ^ K := by rw [hN, Int.natAbs_neg]; exact h.lt
  have hDl : D.natAbs < 4294967296 ^ K := by rw [hDD, Int.natAbs_neg]; exact h2.lt
  clear hN hDD e1 e2 h h2
  go_wp2_with fail
  refine UP.mono ?_
  rintro e w1 ⟨qs, rs, Aq, cq0, Ar, cr0, rfl, nq, nr, rq, rr, hb1⟩
  have k1 := bst k0 hb1 nl9
  replace b0 := b0.below hb1 b0.lt
  replace b1 := b1.below hb1 b1.lt
  replace b2 := b2.below hb1 b2.lt
  clear p0 p1 q0 q1 hb1 k0 UP
  obtain ⟨p0, p1, f0, f1⟩ := b0.two
  obtain ⟨q0, q1, f2, f3⟩ := b1.two
  have c0 := blk_pair b0 (.bool (isNeg N)) (.slice Aq qs.length cq0)
  have c1' := (b1.far (p := ⟨w.heap.size, 0, none⟩) (by show _ ≠ _; simp <;> omega) (.bool (isNeg N))).far (p := ⟨w.heap.size, 1, none⟩) (by show _ ≠ _; simp <;> omega) (.slice Aq qs.length cq0)
  have rq2 := res_var2 (res_var2 rq b0 (.bool (isNeg N)) (.slice Aq qs.length cq0)) c1' (.bool (isNeg D)) (.slice Ar rs.length cr0)
  have rr2 := res_var2 (res_var2 rr b0 (.bool (isNeg N)) (.slice Aq qs.length cq0)) c1' (.bool (isNeg D)) (.slice Ar rs.length cr0)
  have bN := (c0.far (p := ⟨w.heap.size + 1, 0, none⟩) (by show _ ≠ _; simp <;> omega) (.bool (isNeg D))).far (p := ⟨w.heap.size + 1, 1, none⟩) (by show _ ≠ _; simp <;> omega) (.slice Ar rs.length cr0)
  have bD := blk_pair c1' (.bool (isNeg D)) (.slice Ar rs.length cr0)
  have bR := (((b2.far (p := ⟨w.heap.size, 0, none⟩) (by show _ ≠ _; simp <;> omega) (.bool (isNeg N))).far (p := ⟨w.heap.size, 1, none⟩) (by show _ ≠ _; simp <;> omega) (.slice Aq qs.length cq0)).far (p := ⟨w.heap.size + 1, 0, none⟩) (by show _ ≠ _; simp <;> omega) (.bool (isNeg D))).far (p := ⟨w.heap.size + 1, 1, none⟩) (by show _ ≠ _; simp <;> omega) (.slice Ar rs.length cr0)
  have kv := bsc4 (g := w.heap.size) (h := w.heap.size + 1) (u1 := .bool (isNeg N)) (u2 := .slice Aq qs.length cq0) (u3 := .bool (isNeg D)) (u4 := .slice Ar rs.length cr0) k1 nl9 (by omega)
  go_upto_region 2 with fail
  obtain ⟨v, hv⟩ : ∃ v, v = (((w1.setCell ⟨w.heap.size, 0, none⟩ (.bool (isNeg N))).setCell ⟨w.heap.size, 1, none⟩ (.slice Aq qs.length cq0)).setCell ⟨w.heap.size + 1, 0, none⟩ (.bool (isNeg D))).setCell ⟨w.heap.size + 1, 1, none⟩ (.slice Ar rs.length cr0) := ⟨_, rfl⟩
  rw [← hv] at bN bD bR kv rq2 rr2 ⊢
  clear hv p0 p1 q0 q1 f0 f1 f2 f3 b0 b1 b2 k1 c0 c1'
  have zN : Zh v (isNeg N) Aq cq0 qs N K := Zh.of nq rq2 hNl
  have zD : Zh v (isNeg D) Ar cr0 rs D K := Zh.of nr rr2 hDl
  have hD9 : D ≠ 0 := HD.out
  obtain ⟨gp, e3, e4⟩ := low_parts (N := N) hD9
  have hgl : Int.gcd D N < 4294967296 ^ K := Nat.lt_of_le_of_lt (Nat.le_of_dvd (by omega) (Nat.gcd_dvd_left ..)) zD.lt
  have hn1 := Nat.lt_of_le_of_lt (tdiv_le9 N (Int.gcd D N)) zN.lt
  have hn2 := Nat.lt_of_le_of_lt (tdiv_le9 D (Int.gcd D N)) zD.lt
  have GC := hi9 (zgcd_pair9 zD zN (by omega) (hT.below kv hTB) (Nat.lt_of_lt_of_le hTB kv.size))
  have hcg := Hcg.out
  have hnn := Hnn.out
  have hdd := Hdd.out
  rw [← hcg] at gp e3 e4 hgl hn1 hn2 GC
  rw [← hnn] at hn1
  rw [← hdd] at hn2
  have hc0 : (cg : Int) ≠ 0 := by omega
  have EXN : Hid (∀ (zg : List Nat) (Ag : Option Addr) (cq Bg : Nat) (wg W : World), Num 4294967296 zg (cg : Int).natAbs → Res wg Bg 50 Ag cq (u32s zg) → Below wg.heap.size wg W → Below v.heap.size v W → Calls Tryz.prog 95 #[.agg #[.bool (isNeg N), .slice Aq qs.length cq0], .agg #[.bool (isNeg (cg : Nat)), .slice Ag zg.length cq]] W fun e w' => ZE W w' nn 0 e) := fun zg Ag cq Bg wg W n1 r1 h1 hW => by
   have h9 := (zN.next hW).exact ((Zh.of (K := K) (z := (cg : Nat)) n1 r1 (by rw [Int.natAbs_natCast]; exact hgl)).next h1) (by omega) (by omega)
   rw [(ze_dvd9 hc0 e3).1, (ze_dvd9 hc0 e3).2, ← hnn] at h9
   exact h9
  have IOz : Hid (∀ (zg : List Nat) (Ag : Option Addr) (cq Bg : Nat) (wg W : World), Num 4294967296 zg (cg : Int).natAbs → Res wg Bg 50 Ag cq (u32s zg) → Below wg.heap.size wg W → Calls Tryz.prog 83 #[.agg #[.bool (isNeg (cg : Nat)), .slice Ag zg.length cq]] W fun e w' => e = .returned (.bool (decide ((cg : Int) = 1))) ∧ Below W.heap.size W w') := fun zg Ag cq Bg wg W n1 r1 h1 =>
   isone_any ((Zh.of (K := K) (z := (cg : Nat)) n1 r1 (by rw [Int.natAbs_natCast]; exact hgl)).next h1) (by omega)
  clear hcg hnn hdd
  obtain ⟨p0, p1, _, _⟩ := bN.two
  obtain ⟨q0, q1, _, _⟩ := bD.two
  have iS := bel_one v (.cells #[.bool (isNeg D), .slice Ar rs.length cr0, .bool (isNeg N), .slice Aq qs.length cq0] 25)
  go_wp2_with fail
  refine GC.out.mono ?_
  rintro e w3 ⟨zg, Ag, cq, rfl, ng, rg, hb3⟩
  have i3 := bst iS hb3 nl9
  have b3N := bN.below i3 bN.lt
  have b3D := bD.below i3 bD.lt
  have b3R := bR.below i3 bR.lt
  have bg := blk_one w3 (.bool (isNeg (cg : Nat))) (.slice Ag zg.length cq)
  have j4 := bel_one w3 (.cells #[.bool (isNeg (cg : Nat)), .slice Ag zg.length cq] 25)
  replace b3N := b3N.heapAlloc (.cells #[.bool (isNeg (cg : Nat)), .slice Ag zg.length cq] 25)
  replace b3D := b3D.heapAlloc (.cells #[.bool (isNeg (cg : Nat)), .slice Ag zg.length cq] 25)
  replace b3R := b3R.heapAlloc (.cells #[.bool (isNeg (cg : Nat)), .slice Ag zg.length cq] 25)
  clear p0 p1 q0 q1 GC iS hb3
  go_upto_region 3 with fail
  obtain ⟨w4, hw4⟩ : ∃ v, v = w3.alloc (.cells #[.bool (isNeg (cg : Nat)), .slice Ag zg.length cq] 25) := ⟨_, rfl⟩
  rw [← hw4] at bg j4 b3N b3D b3R ⊢
  have i4 := bst i3 j4 nl9
  have o1 : w.heap.size ≠ w3.heap.size := by have := bN.lt; have := i3.size; omega
  have o2 : w.heap.size + 1 ≠ w3.heap.size := by have := bD.lt; have := i3.size; omega
  have o3 : w.heap.size + 1 + 1 ≠ w3.heap.size := by have := bR.lt; have := i3.size; omega
  obtain ⟨g5, hg5⟩ : ∃ g, g = w3.heap.size := ⟨_, rfl⟩
  rw [← hg5] at bg o1 o2 o3 ⊢
  clear hw4 hg5
  obtain ⟨s0, s1, _, _⟩ := bg.two
  go_wp2_with fail
  refine (IOz.out zg Ag cq _ w3 w4 ng rg j4).mono ?_
  rintro e w5 ⟨rfl, hb5⟩
  have i5 := bst i4 hb5 nl9
  have j5 := bst j4 hb5 nl9
  replace b3N := b3N.below hb5 b3N.lt
  replace b3D := b3D.below hb5 b3D.lt
  replace b3R := b3R.below hb5 b3R.lt
  replace bg := bg.below hb5 bg.lt
  clear s0 s1 IOz hb5 i4 j4
  by_cases hone : (cg : Int) = 1
  ·have t1 : decide ((cg : Int) = 1) = true := decide_eq_true hone
   have en : nn = N := by rw [Hnn.out, hone, Int.tdiv_one]
   have ed : dd = D := by rw [Hdd.out, hone, Int.tdiv_one]
   have NA : Hid (∀ W (_ : Below v.heap.size v W), Calls Tryz.prog 102 #[.agg #[.bool (isNeg N), .slice Aq qs.length cq0]] W fun e w' => ZOut W w' N e) := fun W hW => (zN.next hW).norm (by omega)
   have NB : Hid (∀ W (_ : Below v.heap.size v W), Calls Tryz.prog 102 #[.agg #[.bool (isNeg D), .slice Ar rs.length cr0]] W fun e w' => ZOut W w' D e) := fun W hW => (zD.next hW).norm (by omega)
   have HEN := hi9 en
   have HED := hi9 ed
   rw [t1]
   obtain ⟨p0, p1, _, _⟩ := b3N.two
   obtain ⟨q0, q1, _, _⟩ := b3D.two
   clear EXN hone t1 en ed hn1 hn2 hc0 e3 e4 gp hgl zN zD
   go_upto_region 7 with fail
   go_region_with (first
    | (go_at_call_of 102 (Value.agg #[Value.bool (isNeg N), Value.slice Aq qs.length cq0]); (with_reducible refine (NA.out _ (bst i5 (by repeat (first | exact br9 | apply bdw | (refine bdn ?_ _))) nl9)).mono ?_); rintro e w6 ⟨zs, A1, c1, rfl, hz1, hr1, hb6⟩; have m1 : Below w5.heap.size w5 w6 := bst (by repeat (first | exact br9 | apply bdw | (refine bdn ?_ _))) hb6 nl9; obtain ⟨qa0, qa1, _, _⟩ := (b3D.below m1 b3D.lt).two)
    | (go_at_call 102; (with_reducible refine (NB.out _ (bst i5 (by repeat (first | exact br9 | exact m1 | apply bdw | (refine bdn ?_ _))) nl9)).mono ?_); rintro e w7 ⟨zs2, A3, c3, rfl, hz2, hr2, hb7⟩; have m2 : Below w5.heap.size w5 w7 := bst (by repeat (first | exact br9 | exact m1 | apply bdw | (refine bdn ?_ _))) hb7 nl9; have i2 : Below w6.heap.size w6 w7 := bst (by repeat (first | exact br9 | apply bdw | (refine bdn ?_ _))) hb7 nl9; have bR7 := b3R.below m2 b3R.lt; obtain ⟨_, _, _, _, f0, f1, f2, f3⟩ := bR7.four))
   all_goals
    go_wp2_with fail
    have kw : Below w.heap.size w w7 := bst kv (bst i5 m2 nl9) nl9
    have s1 := kv.size
    have s2 := i5.size
    have s3 := m1.size
    have r1 : Res w7 w.heap.size 50 A1 c1 (u32s zs) := (hr1.below i2 nl9).mono (by first | omega | (simp; omega))
    have r2 : Res w7 w.heap.size 50 A3 c3 (u32s zs2) := hr2.mono (by first | omega | (simp; omega))
    exact rret (n := nn) (d := dd) kw bR7 (by omega) (by rw [HEN.out]; exact hz1) (by rw [HED.out]; exact hz2) r1 r2 (by rw [HEN.out]) (by rw [HED.out]) rfl rfl rfl
  ·have t1 : decide ((cg : Int) = 1) = false := decide_eq_false hone
   rw [t1]
   have EXD : Hid (∀ (zg : List Nat) (Ag : Option Addr) (cq Bg : Nat) (wg W : World), Num 4294967296 zg (cg : Int).natAbs → Res wg Bg 50 Ag cq (u32s zg) → Below wg.heap.size wg W → Zh W (isNeg D) Ar cr0 rs D K → Calls Tryz.prog 95 #[.agg #[.bool (isNeg D), .slice Ar rs.length cr0], .agg #[.bool (isNeg (cg : Nat)), .slice Ag zg.length cq]] W fun e w' => ZE W w' dd 0 e) := fun zg Ag cq Bg wg W n1 r1 h1 hW => by
    have h9 := hW.exact ((Zh.of (K := K) (z := (cg : Nat)) n1 r1 (by rw [Int.natAbs_natCast]; exact hgl)).next h1) (by omega) (by omega)
    rw [(ze_dvd9 hc0 e4).1, (ze_dvd9 hc0 e4).2, ← Hdd.out] at h9
    exact h9
   obtain ⟨p0, p1, f0, f1⟩ := b3N.two
   obtain ⟨s0, s1, _, _⟩ := bg.two
   clear hone t1 gp e3 e4 hc0
   go_wp2_with fail
   refine (EXN.out zg Ag cq _ w3 w5 ng rg j5 i5).mono ?_
   rintro e w6 ⟨zs, A1, c1, rfl, ns, rs, hb6⟩
   have i6 := bst i5 hb6 nl9
   have j6 := bst j5 hb6 nl9
   have rg6 := rg.below j6 nl9
   replace b3N := b3N.below hb6 b3N.lt
   replace b3D := b3D.below hb6 b3D.lt
   replace b3R := b3R.below hb6 b3R.lt
   replace bg := bg.below hb6 bg.lt
   have hs5 := i5.size
   clear p0 p1 f0 f1 s0 s1 EXN hb6 i5 j5 j6
   obtain ⟨_, _, f0, f1⟩ := b3N.two
   have rs7 := res_var2 rs b3N (.bool (isNeg nn)) (.slice A1 zs.length c1)
   have rg7 := res_var2 rg6 b3N (.bool (isNeg nn)) (.slice A1 zs.length c1)
   have b7N := blk_pair b3N (.bool (isNeg nn)) (.slice A1 zs.length c1)
   have b7D := (b3D.far (p := ⟨w.heap.size, 0, none⟩) (by show _ ≠ _; simp <;> omega) (.bool (isNeg nn))).far (p := ⟨w.heap.size, 1, none⟩) (by show _ ≠ _; simp <;> omega) (.slice A1 zs.length c1)
   have b7R := (b3R.far (p := ⟨w.heap.size, 0, none⟩) (by show _ ≠ _; simp <;> omega) (.bool (isNeg nn))).far (p := ⟨w.heap.size, 1, none⟩) (by show _ ≠ _; simp <;> omega) (.slice A1 zs.length c1)
   have b7g := (bg.far (p := ⟨w.heap.size, 0, none⟩) (Ne.symm o1) (.bool (isNeg nn))).far (p := ⟨w.heap.size, 1, none⟩) (Ne.symm o1) (.slice A1 zs.length c1)
   have k7 := bsc (i := 1) (bsc (i := 0) (g := w.heap.size) (bst kv i6 nl9) nl9 (.bool (isNeg nn))) (Nat.le_refl w.heap.size) (.slice A1 zs.length c1)
   have ZDN := (Zh.of (K := K) nr (res_var2 (rr2.below i6 nl9) b3N (.bool (isNeg nn)) (.slice A1 zs.length c1)) hDl)
   go_upto_region 5 with fail
   obtain ⟨w7, hw7⟩ : ∃ u, u = (w6.setCell ⟨w.heap.size, 0, none⟩ (.bool (isNeg nn))).setCell ⟨w.heap.size, 1, none⟩ (.slice A1 zs.length c1) := ⟨_, rfl⟩
   rw [← hw7] at rs7 rg7 b7N b7D b7R b7g k7 ZDN ⊢
   clear hw7 f0 f1 b3N b3D b3R bg rs rg6
   obtain ⟨q0, q1, _, _⟩ := b7D.two
   obtain ⟨s0, s1, _, _⟩ := b7g.two
   go_wp2_with fail
   refine (EXD.out zg Ag cq _ w7 w7 ng rg7 br9 ZDN).mono ?_
   rintro e w8 ⟨zs2, A3, c3, rfl, nd, rd, hb8⟩
   have k8 := bst k7 hb8 nl9
   have s7 := k7.size
   have r1 : Res w8 w.heap.size 50 A1 c1 (u32s zs) := (rs7.below hb8 nl9).mono (by have := kv.size; have := i6.size; omega)
   have r2 : Res w8 w.heap.size 50 A3 c3 (u32s zs2) := rd.mono s7
   replace b7N := b7N.below hb8 b7N.lt
   replace b7D := b7D.below hb8 b7D.lt
   replace b7R := b7R.below hb8 b7R.lt
   clear q0 q1 s0 s1 EXD hb8 b7g rs7 rg7 k7 s7 ZDN rd
   obtain ⟨_, _, f2, f3⟩ := b7D.two
   have r1' := res_var2 r1 b7D (.bool (isNeg dd)) (.slice A3 zs2.length c3)
   have r2' := res_var2 r2 b7D (.bool (isNeg dd)) (.slice A3 zs2.length c3)
   have b9N := (b7N.far (p := ⟨w.heap.size + 1, 0, none⟩) (by show _ ≠ _; simp <;> omega) (.bool (isNeg dd))).far (p := ⟨w.heap.size + 1, 1, none⟩) (by show _ ≠ _; simp <;> omega) (.slice A3 zs2.length c3)
   have b9D := blk_pair b7D (.bool (isNeg dd)) (.slice A3 zs2.length c3)
   have b9R := (b7R.far (p := ⟨w.heap.size + 1, 0, none⟩) (by show _ ≠ _; simp <;> omega) (.bool (isNeg dd))).far (p := ⟨w.heap.size + 1, 1, none⟩) (by show _ ≠ _; simp <;> omega) (.slice A3 zs2.length c3)
   have k9 := bsc (i := 1) (bsc (i := 0) (g := w.heap.size + 1) k8 (by omega) (.bool (isNeg dd))) (by omega : w.heap.size ≤ w.heap.size + 1) (.slice A3 zs2.length c3)
   go_upto_region 6 with fail
   obtain ⟨w9, hw9⟩ : ∃ u, u = (w8.setCell ⟨w.heap.size + 1, 0, none⟩ (.bool (isNeg dd))).setCell ⟨w.heap.size + 1, 1, none⟩ (.slice A3 zs2.length c3) := ⟨_, rfl⟩
   rw [← hw9] at r1' r2' b9N b9D b9R k9 ⊢
   clear hw9 f2 f3 b7N b7D b7R r1 r2 k8
   obtain ⟨p0, p1, _, _⟩ := b9N.two
   obtain ⟨q0, q1, _, _⟩ := b9D.two
   obtain ⟨_, _, _, _, f0, f1, f2, f3⟩ := b9R.four
   go_wp2_with fail
   exact rret k9 b9R (by omega) ns nd r1' r2' rfl rfl rfl rfl rfl
end
end Go.Proofs.YtbcphifjcaobfaaGreatDoor
