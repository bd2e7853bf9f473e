/- Variables behind new blocks. No conditions. The walk of the law ZintDivides at a divisor that is 0, over the contracts of what it calls. Conditions: those contracts. A drawn region whose last operations stand in one order: a condition on the worlds holds till the head has come up; what it fixes may be taken first. No conditions. -/
import Derived.Test.YtanlejlmckdeiaaGreatPkZd17
import Derived.Test.YtanlejlmckdeiaaGreatPkZd29
import Derived.Test.YtanlejlmckdeiaaGreatPkZd14
import Derived.Deep.RegionHeld
namespace Go.Proofs.YtanlejlmckdeiaaGreat
section
open Go.RowKit

theorem two_al {w : World} {g : Nat} {t : TypeId} {x y : Value} (h : Blk w g t [x, y]) : (∀ o : Obj, (w.alloc o).cell? ⟨g, 0, none⟩ = some x) ∧ (∀ o : Obj, (w.alloc o).cell? ⟨g, 1, none⟩ = some y) ∧ (∀ o : Obj, (w.alloc o).frozen? ⟨g, 0, none⟩ = false) ∧ (∀ o : Obj, (w.alloc o).frozen? ⟨g, 1, none⟩ = false) :=
  ⟨fun o => (h.heapAlloc o).c0, fun o => (h.heapAlloc o).c1, fun o => (h.heapAlloc o).frozen 0, fun o => (h.heapAlloc o).frozen 1⟩
theorem two_al2 {w : World} {g : Nat} {t : TypeId} {x y : Value} (h : Blk w g t [x, y]) : (∀ o o2 : Obj, ((w.alloc o).alloc o2).cell? ⟨g, 0, none⟩ = some x) ∧ (∀ o o2 : Obj, ((w.alloc o).alloc o2).cell? ⟨g, 1, none⟩ = some y) ∧ (∀ o o2 : Obj, ((w.alloc o).alloc o2).frozen? ⟨g, 0, none⟩ = false) ∧ (∀ o o2 : Obj, ((w.alloc o).alloc o2).frozen? ⟨g, 1, none⟩ = false) :=
  ⟨fun o o2 => ((h.heapAlloc o).heapAlloc o2).c0, fun o o2 => ((h.heapAlloc o).heapAlloc o2).c1, fun o o2 => ((h.heapAlloc o).heapAlloc o2).frozen 0, fun o o2 => ((h.heapAlloc o).heapAlloc o2).frozen 1⟩
theorem res_al9 {w : World} {B : Nat} {t : TypeId} {A : Option Addr} {c : Nat} {vs : List Value} (h : Res w B t A c vs) (o : Obj) : Res (w.alloc o) B t A c vs := h.below ((Below.refl _ _).alloc (Nat.le_refl _) o) (Nat.le_refl _)
/-- What a call leaves, off an earlier world. -/
theorem bel_pre {w0 w w' : World} (hb : Below w.heap.size w w') (h : Below w0.heap.size w0 w) : Below w0.heap.size w0 w' := bst h hb (Nat.le_refl _)
end
section
open Go.RowKit

/-- Region 6's operands. -/
def DivP (p : Nat) (mv kv : Int) : Prop := p = 0 ∧ mv = 0 ∧ kv = 1 ∨ p ≠ 0 ∧ kv = 0
section
variable {w : World} {g g2 : Bool} {A A2 : Option Addr} {c c2 : Nat} {xs ys : List Nat}
set_option maxHeartbeats 12800000 in
set_option maxRecDepth 20000 in
theorem div_nought (p : Nat) (mv kv : Int) (hp : DivP p mv kv) (hp9 : p < 4294967296)
    (EU : Hid (∀ W (_ : Below w.heap.size w W), Calls Tryz.prog 29 #[.agg #[.bool g, .slice A xs.length c], .agg #[.bool g2, .slice A2 ys.length c2]] W fun e w' => ∃ A1 c1 A3 c3, e = .returned (.tuple #[.agg #[.bool false, .slice A1 0 c1], .agg #[.bool false, .slice A3 0 c3], .int .i64 5]) ∧ Below W.heap.size W w'))
    (TC : Hid (∀ W (_ : Below w.heap.size w W), Calls Tryz.prog 30 #[.agg #[.bool g, .slice A xs.length c], .agg #[.bool g2, .slice A2 ys.length c2]] W fun e w' => ∃ A1 c1 A3 c3, e = .returned (.tuple #[.agg #[.bool false, .slice A1 0 c1], .agg #[.bool false, .slice A3 0 c3], .int .i64 5]) ∧ Below W.heap.size W w'))
    (EX : Hid (∀ W (_ : Below w.heap.size w W), Calls Tryz.prog 31 #[.agg #[.bool g, .slice A xs.length c], .agg #[.bool g2, .slice A2 ys.length c2]] W fun e w' => ∃ A1 c1, e = .returned (.tuple #[.agg #[.bool false, .slice A1 0 c1], .int .i64 5]) ∧ Below W.heap.size W w'))
    (NR : Hid (∀ W (_ : Below w.heap.size w W), Calls Tryz.prog 32 #[.agg #[.bool g, .slice A xs.length c], .agg #[.bool g2, .slice A2 ys.length c2]] W fun e w' => ∃ A1 c1, e = .returned (.tuple #[.agg #[.bool false, .slice A1 0 c1], .int .i64 5]) ∧ Below W.heap.size W w'))
    (MD : Hid (∀ W (_ : Below w.heap.size w W), Calls Tryz.prog 33 #[.agg #[.bool g, .slice A xs.length c], .int .u32 (p : Int)] W fun e w' => e = .returned (.tuple #[.int .u32 mv, .int .i64 kv]) ∧ Below W.heap.size W w'))
    (RM : p ≠ 0 → Hid (∀ W (_ : Below w.heap.size w W), Calls Tryz.prog 34 #[.agg #[.bool g, .slice A xs.length c], .int .u32 (p : Int)] W fun e w' => e = .returned (.int .u32 mv) ∧ Below W.heap.size W w'))
    (SG : Hid (∀ W (_ : Below w.heap.size w W), Calls Tryz.prog 16 #[.agg #[.bool g2, .slice A2 ys.length c2]] W fun e w' => e = .returned (.int .i64 0) ∧ Below W.heap.size W w')) :
    Calls Tryz.prog 5 #[.agg #[.bool g, .slice A xs.length c], .agg #[.bool g2, .slice A2 ys.length c2], .int .u32 (p : Int)] w fun e w' => e = .returned (.bool true) ∧ Below w.heap.size w w' := by
  have SM : Hid (∀ (A1 : Option Addr) (c1 : Nat) (W : World), Calls Tryz.prog 11 #[.agg #[.bool false, .slice A1 0 c1], .agg #[.bool false, .slice none 0 0]] W fun e w' => e = .returned (.bool true) ∧ Below W.heap.size W w') := fun A1 c1 W => lsame_any (xs := []) false (fun h => absurd rfl h) (fun h => absurd rfl h) (by simp)
  have HP := Lib.hid hp
  have RM2 := Lib.hid RM
  have P9 := Lib.hid hp9
  have k0 := bel_two w (.cells #[.bool g, .slice A xs.length c] 25) (.cells #[.bool g2, .slice A2 ys.length c2] 25)
  obtain ⟨b0, b1⟩ := blk_pair2 w (.bool g) (.slice A xs.length c) (.bool g2) (.slice A2 ys.length c2)
  clear hp RM hp9
  go_enter Tryz.func5, Tryz.ntmps5
  go_upto_region 1 with (fail)
  obtain ⟨v0, hv0⟩ : ∃ v, v = (w.alloc (.cells #[.bool g, .slice A xs.length c] 25)).alloc (.cells #[.bool g2, .slice A2 ys.length c2] 25) := ⟨_, rfl⟩
  rw [← hv0] at b0 b1 k0 ⊢
  clear hv0
  have BA := Lib.hid b0
  have BB := Lib.hid b1
  have K0 := k0
  clear b0 b1 k0
  obtain ⟨p0BA, p1BA, _, _⟩ := BA.out.two
  obtain ⟨p0BB, p1BB, _, _⟩ := BB.out.two
  go_wp2_with fail
  refine (EU.out _ K0).mono ?_
  rintro e w1 ⟨Aq, cq, Ar, cr, rfl, hb1⟩
  clear p0BA p1BA p0BB p1BB
  go_upto_region 2 with (fail)
  obtain ⟨v1, hv1⟩ : ∃ v, v = (w1.alloc (.cells #[.bool false, .slice Aq 0 cq] 25)).alloc (.cells #[.bool false, .slice Ar 0 cr] 25) := ⟨_, rfl⟩
  rw [← hv1]
  obtain ⟨bq, br⟩ : Blk v1 w1.heap.size 25 [.bool false, .slice Aq 0 cq] ∧ Blk v1 (w1.heap.size + 1) 25 [.bool false, .slice Ar 0 cr] := by rw [hv1]; exact blk_pair2 _ _ _ _ _
  have i1 : Below w1.heap.size w1 v1 := by rw [hv1]; exact bel_two _ _ _
  obtain ⟨gq, hg⟩ : ∃ g, g = w1.heap.size := ⟨_, rfl⟩
  rw [← hg] at bq br ⊢
  clear hg
  have j1 := bst hb1 i1 (Nat.le_refl _)
  replace BA := Lib.hid (BA.out.below j1 BA.out.lt)
  replace BB := Lib.hid (BB.out.below j1 BB.out.lt)
  have Bq := Lib.hid bq
  have Br := Lib.hid br
  have K1 := bst K0 j1 (Nat.le_refl _)
  clear hb1 j1 hv1 i1 bq br
  clear K0
  obtain ⟨p0BA, p1BA, _, _⟩ := BA.out.two
  obtain ⟨p0BB, p1BB, _, _⟩ := BB.out.two
  go_wp2_with fail
  refine (TC.out _ K1).mono ?_
  rintro e w2 ⟨At, ct, Au, cu, rfl, hb2⟩
  clear p0BA p1BA p0BB p1BB
  go_upto_region 3 with (fail)
  obtain ⟨v2, hv2⟩ : ∃ v, v = (w2.alloc (.cells #[.bool false, .slice At 0 ct] 25)).alloc (.cells #[.bool false, .slice Au 0 cu] 25) := ⟨_, rfl⟩
  rw [← hv2]
  obtain ⟨bt, bu⟩ : Blk v2 w2.heap.size 25 [.bool false, .slice At 0 ct] ∧ Blk v2 (w2.heap.size + 1) 25 [.bool false, .slice Au 0 cu] := by rw [hv2]; exact blk_pair2 _ _ _ _ _
  have i2 : Below w2.heap.size w2 v2 := by rw [hv2]; exact bel_two _ _ _
  obtain ⟨gt, hg⟩ : ∃ g, g = w2.heap.size := ⟨_, rfl⟩
  rw [← hg] at bt bu ⊢
  clear hg
  have j2 := bst hb2 i2 (Nat.le_refl _)
  replace BA := Lib.hid (BA.out.below j2 BA.out.lt)
  replace BB := Lib.hid (BB.out.below j2 BB.out.lt)
  replace Bq := Lib.hid (Bq.out.below j2 Bq.out.lt)
  replace Br := Lib.hid (Br.out.below j2 Br.out.lt)
  have Bt := Lib.hid bt
  have Bu := Lib.hid bu
  have K2 := bst K1 j2 (Nat.le_refl _)
  clear hb2 j2 hv2 i2 bt bu
  clear K1
  obtain ⟨p0BA, p1BA, _, _⟩ := BA.out.two
  obtain ⟨p0BB, p1BB, _, _⟩ := BB.out.two
  go_wp2_with fail
  refine (EX.out _ K2).mono ?_
  rintro e w3 ⟨Ax, cx, rfl, hb3⟩
  clear p0BA p1BA p0BB p1BB
  go_upto_region 4 with (fail)
  obtain ⟨v3, hv3⟩ : ∃ v, v = w3.alloc (.cells #[.bool false, .slice Ax 0 cx] 25) := ⟨_, rfl⟩
  rw [← hv3]
  have bx : Blk v3 w3.heap.size 25 [.bool false, .slice Ax 0 cx] := by rw [hv3]; exact blk_one _ _ _
  have i3 : Below w3.heap.size w3 v3 := by rw [hv3]; exact bel_one _ _
  obtain ⟨gx, hg⟩ : ∃ g, g = w3.heap.size := ⟨_, rfl⟩
  rw [← hg] at bx ⊢
  clear hg
  have j3 := bst hb3 i3 (Nat.le_refl _)
  replace BA := Lib.hid (BA.out.below j3 BA.out.lt)
  replace BB := Lib.hid (BB.out.below j3 BB.out.lt)
  replace Bq := Lib.hid (Bq.out.below j3 Bq.out.lt)
  replace Br := Lib.hid (Br.out.below j3 Br.out.lt)
  replace Bt := Lib.hid (Bt.out.below j3 Bt.out.lt)
  replace Bu := Lib.hid (Bu.out.below j3 Bu.out.lt)
  have Bx := Lib.hid bx
  have K3 := bst K2 j3 (Nat.le_refl _)
  clear hb3 j3 hv3 i3 bx
  clear K2
  obtain ⟨p0BA, p1BA, _, _⟩ := BA.out.two
  obtain ⟨p0BB, p1BB, _, _⟩ := BB.out.two
  go_wp2_with fail
  refine (NR.out _ K3).mono ?_
  rintro e w4 ⟨An, cn, rfl, hb4⟩
  clear p0BA p1BA p0BB p1BB
  go_upto_region 5 with (fail)
  obtain ⟨v4, hv4⟩ : ∃ v, v = w4.alloc (.cells #[.bool false, .slice An 0 cn] 25) := ⟨_, rfl⟩
  rw [← hv4]
  have bn : Blk v4 w4.heap.size 25 [.bool false, .slice An 0 cn] := by rw [hv4]; exact blk_one _ _ _
  have i4 : Below w4.heap.size w4 v4 := by rw [hv4]; exact bel_one _ _
  obtain ⟨gn, hg⟩ : ∃ g, g = w4.heap.size := ⟨_, rfl⟩
  rw [← hg] at bn ⊢
  clear hg
  have j4 := bst hb4 i4 (Nat.le_refl _)
  replace BA := Lib.hid (BA.out.below j4 BA.out.lt)
  replace BB := Lib.hid (BB.out.below j4 BB.out.lt)
  replace Bq := Lib.hid (Bq.out.below j4 Bq.out.lt)
  replace Br := Lib.hid (Br.out.below j4 Br.out.lt)
  replace Bt := Lib.hid (Bt.out.below j4 Bt.out.lt)
  replace Bu := Lib.hid (Bu.out.below j4 Bu.out.lt)
  replace Bx := Lib.hid (Bx.out.below j4 Bx.out.lt)
  have Bn := Lib.hid bn
  have K4 := bst K3 j4 (Nat.le_refl _)
  clear hb4 j4 hv4 i4 bn
  clear K3
  obtain ⟨p0BA, p1BA, _, _⟩ := BA.out.two
  obtain ⟨p0BB, p1BB, _, _⟩ := BB.out.two
  go_wp2_with fail
  refine (MD.out _ K4).mono ?_
  rintro e w5 ⟨rfl, hb5⟩
  clear p0BA p1BA p0BB p1BB
  obtain ⟨v5, rfl⟩ : ∃ v : World, v = w5 := ⟨_, rfl⟩
  have j5 := hb5
  replace BA := Lib.hid (BA.out.below j5 BA.out.lt)
  replace BB := Lib.hid (BB.out.below j5 BB.out.lt)
  replace Bq := Lib.hid (Bq.out.below j5 Bq.out.lt)
  replace Br := Lib.hid (Br.out.below j5 Br.out.lt)
  replace Bt := Lib.hid (Bt.out.below j5 Bt.out.lt)
  replace Bu := Lib.hid (Bu.out.below j5 Bu.out.lt)
  replace Bx := Lib.hid (Bx.out.below j5 Bx.out.lt)
  replace Bn := Lib.hid (Bn.out.below j5 Bn.out.lt)
  have K5 := bst K4 j5 (Nat.le_refl _)
  clear hb5 j5
  clear K4
  obtain ⟨p0BA, p1BA, _, _⟩ := BA.out.two
  obtain ⟨p0BB, p1BB, _, _⟩ := BB.out.two
  go_upto_region 6 with (fail)
  go_cut [82] (fun v W => v = .bool false ∧ Below v5.heap.size v5 W)
  case first =>
    rcases HP.out with ⟨rfl, rfl, rfl⟩ | ⟨h1, rfl⟩
    · clear HP RM2 P9
      go_wp2_with fail
      go_meet
      exact ⟨rfl, Below.refl _ _⟩
    · have RM := RM2.out h1
      have h2 : decide (p = 0) = false := decide_eq_false h1
      clear HP RM2 P9
      go_wp2_with fail
      refine (RM.out _ K5).mono ?_
      rintro e w6 ⟨rfl, hb6⟩
      go_wp2_with fail
      go_meet
      exact ⟨rfl, hb6⟩
  case rest =>
    obtain ⟨rfl, j6⟩ := hcut
    obtain ⟨v6, rfl⟩ : ∃ v6 : World, v6 = wc := ⟨_, rfl⟩
    replace BA := Lib.hid (BA.out.below j6 BA.out.lt)
    replace BB := Lib.hid (BB.out.below j6 BB.out.lt)
    replace Bq := Lib.hid (Bq.out.below j6 Bq.out.lt)
    replace Br := Lib.hid (Br.out.below j6 Br.out.lt)
    replace Bt := Lib.hid (Bt.out.below j6 Bt.out.lt)
    replace Bu := Lib.hid (Bu.out.below j6 Bu.out.lt)
    replace Bx := Lib.hid (Bx.out.below j6 Bx.out.lt)
    replace Bn := Lib.hid (Bn.out.below j6 Bn.out.lt)
    have K6 := bst K5 j6 (Nat.le_refl _)
    clear j6 K5 p0BA p1BA p0BB p1BB HP RM2 P9
    obtain ⟨p0BA, p1BA, _, _⟩ := BA.out.two
    obtain ⟨p0BB, p1BB, _, _⟩ := BB.out.two
    go_wp2_with fail
    refine (SG.out _ K6).mono ?_
    rintro e w7 ⟨rfl, hb7⟩
    clear p0BA p1BA p0BB p1BB SG
    go_upto_region 10 with (fail)
    obtain ⟨v7, hv7⟩ : ∃ v, v = w7.alloc (.cells #[.bool false, .slice none 0 0] 25) := ⟨_, rfl⟩
    rw [← hv7]
    have bz : Blk v7 w7.heap.size 25 [.bool false, .slice none 0 0] := by rw [hv7]; exact blk_one _ _ _
    have i7 : Below w7.heap.size w7 v7 := by rw [hv7]; exact bel_one _ _
    obtain ⟨gz, hg⟩ : ∃ g, g = w7.heap.size := ⟨_, rfl⟩
    rw [← hg] at bz ⊢
    have j7 := bst hb7 i7 (Nat.le_refl _)
    have K7 := bst K6 j7 (Nat.le_refl _)
    have Bq7 := Bq.out.below j7 Bq.out.lt
    have Br7 := Br.out.below j7 Br.out.lt
    have Bt7 := Bt.out.below j7 Bt.out.lt
    have Bu7 := Bu.out.below j7 Bu.out.lt
    have Bx7 := Bx.out.below j7 Bx.out.lt
    have Bn7 := Bn.out.below j7 Bn.out.lt
    clear hv7 i7 hg hb7 j7 K6 BA BB Bq Br Bt Bu Bx Bn
    obtain ⟨a0, a1, _, _⟩ := Bq7.two
    obtain ⟨a2, a3, _, _⟩ := bz.two
    go_wp2_with fail
    refine (SM.out Aq cq _).mono ?_
    rintro e v8 ⟨rfl, hb⟩
    clear a0 a1 a2 a3
    have Br8 := Br7.below hb Br7.lt
    have Bt8 := Bt7.below hb Bt7.lt
    have Bu8 := Bu7.below hb Bu7.lt
    have Bx8 := Bx7.below hb Bx7.lt
    have Bn8 := Bn7.below hb Bn7.lt
    replace bz := bz.below hb bz.lt
    have K8 := bst K7 hb (Nat.le_refl _)
    clear hb K7 Bq7 Br7 Bt7 Bu7 Bx7 Bn7
    obtain ⟨a0, a1, _, _⟩ := Br8.two
    obtain ⟨a2, a3, _, _⟩ := bz.two
    go_wp2_with fail
    refine (SM.out Ar cr _).mono ?_
    rintro e v9 ⟨rfl, hb⟩
    clear a0 a1 a2 a3
    have Bt9 := Bt8.below hb Bt8.lt
    have Bu9 := Bu8.below hb Bu8.lt
    have Bx9 := Bx8.below hb Bx8.lt
    have Bn9 := Bn8.below hb Bn8.lt
    replace bz := bz.below hb bz.lt
    have K9 := bst K8 hb (Nat.le_refl _)
    clear hb K8 Br8 Bt8 Bu8 Bx8 Bn8
    obtain ⟨a0, a1, _, _⟩ := Bt9.two
    obtain ⟨a2, a3, _, _⟩ := bz.two
    go_wp2_with fail
    refine (SM.out At ct _).mono ?_
    rintro e v10 ⟨rfl, hb⟩
    clear a0 a1 a2 a3
    have Bu10 := Bu9.below hb Bu9.lt
    have Bx10 := Bx9.below hb Bx9.lt
    have Bn10 := Bn9.below hb Bn9.lt
    replace bz := bz.below hb bz.lt
    have K10 := bst K9 hb (Nat.le_refl _)
    clear hb K9 Bt9 Bu9 Bx9 Bn9
    obtain ⟨a0, a1, _, _⟩ := Bu10.two
    obtain ⟨a2, a3, _, _⟩ := bz.two
    go_wp2_with fail
    refine (SM.out Au cu _).mono ?_
    rintro e v11 ⟨rfl, hb⟩
    clear a0 a1 a2 a3
    have Bx11 := Bx10.below hb Bx10.lt
    have Bn11 := Bn10.below hb Bn10.lt
    replace bz := bz.below hb bz.lt
    have K11 := bst K10 hb (Nat.le_refl _)
    clear hb K10 Bu10 Bx10 Bn10
    obtain ⟨a0, a1, _, _⟩ := Bx11.two
    obtain ⟨a2, a3, _, _⟩ := bz.two
    go_wp2_with fail
    refine (SM.out Ax cx _).mono ?_
    rintro e v12 ⟨rfl, hb⟩
    clear a0 a1 a2 a3
    have Bn12 := Bn11.below hb Bn11.lt
    replace bz := bz.below hb bz.lt
    have K12 := bst K11 hb (Nat.le_refl _)
    clear hb K11 Bx11 Bn11
    obtain ⟨a0, a1, _, _⟩ := Bn12.two
    obtain ⟨a2, a3, _, _⟩ := bz.two
    go_wp2_with fail
    refine (SM.out An cn _).mono ?_
    rintro e v13 ⟨rfl, hb⟩
    clear a0 a1 a2 a3
    replace bz := bz.below hb bz.lt
    have K13 := bst K12 hb (Nat.le_refl _)
    clear hb K12 Bn12
    go_wp2_with fail
    refine (zlives_any _).mono ?_
    rintro e v14 ⟨rfl, hb⟩
    have K14 := bst K13 hb (Nat.le_refl _)
    go_wp2_with fail
    go_ret
    exact ⟨rfl, K14⟩
end
end
section
open Go

/-- Whatever order the head comes up in, S holding behind each of its operations; L holds behind it. -/
def HeadH (P : Program) (md : Region.Mode) (ops : Array Oper) (Q : Exit → Act → World → Prop) (S : World → Prop) (n : Nat) (L : Array Bool → Act → World → Prop) : Nat → Array Bool → Act → World → Prop
  | 0, ls, a, w => L ls a w
  | f + 1, ls, a, w => Region.ready md ops ls ≠ [] ∧ ∀ i ∈ Region.ready md ops ls, i < n ∧ wpOp P ops Q i (fun a' w' => S w' ∧ HeadH P md ops Q S n L f (ls.setIfInBounds i true) a' w') a w

section
variable {P : Program} {md : Region.Mode} {ops : Array Oper} {Q : Exit → Act → World → Prop} {S : World → Prop} {n : Nat} {L : Array Bool → Act → World → Prop}

theorem HeadH.any {g : Nat} (hL : ∀ ls a w, L ls a w → wpAny P md ops Q g ls a w) :
    ∀ f ls a w, HeadH P md ops Q S n L f ls a w → wpAny P md ops Q (f + g) ls a w
  | 0, ls, a, w, h => by rw [Nat.zero_add]; exact hL ls a w h
  | f + 1, ls, a, w, h => by
    rw [show f + 1 + g = (f + g) + 1 from by omega]
    exact ⟨fun h0 => absurd h0 h.1, fun i hi => wpOp_mono (fun a' w' h' => HeadH.any hL f _ a' w' h'.2) (h.2 i hi).2⟩

theorem HeadH.first {i : Nat} {o : Oper} {v : Value} (ho : ops[i]? = some o) (hsel : Region.noSelect ops = true) (hs : Region.sinkB md ops n = true) (hc : Region.chainB md ops n = true) (hn : n < ops.size) (hin : i < n)
    (hend : ∀ ls a w, L ls a w → ∀ j ∈ Region.ready md ops ls, n ≤ j) (hQ : ∀ c a w, Q (.panic c) (a.put o.dst v) w → Q (.panic c) a w) :
    ∀ f ls a w, HeadInv md ops n ls → (∀ j oj, ops[j]? = some oj → j ≠ i → ls.getD j true = false → (∀ e ∈ oj.after, Region.binds md e = true → e.on ≠ i) → o.apart ops oj = true) →
      i ∈ Region.ready md ops ls → YieldsIf P ops S o v a → S w → HeadH P md ops Q S n L f (ls.setIfInBounds i true) (a.put o.dst v) w → HeadH P md ops Q S n L (f + 1) ls a w := by
  intro f
  induction f with
  | zero =>
    intro ls a w inv _ hr hy hS H
    have hun := (mem_ready.1 hr).1
    refine ⟨fun h => (by rw [h] at hr; cases hr), fun j hj => ?_⟩
    have hjn : j < n := (Nat.lt_or_ge j n).resolve_right fun h => absurd hj (tail_waits hs hc hn inv _ i rfl hin hun j h)
    refine ⟨hjn, ?_⟩
    by_cases hji : j = i
    · subst hji; exact hy.wpOp ho hS ⟨hS, H⟩
    · exact absurd (hend _ _ _ H j (ready_mono hj hji)) (by omega)
  | succ f ih =>
    intro ls a w inv hfree hr hy hS H
    have hun := (mem_ready.1 hr).1
    refine ⟨fun h => (by rw [h] at hr; cases hr), fun j hj => ?_⟩
    have hjn : j < n := (Nat.lt_or_ge j n).resolve_right fun h => absurd hj (tail_waits hs hc hn inv _ i rfl hin hun j h)
    refine ⟨hjn, ?_⟩
    by_cases hji : j = i
    · subst hji; exact hy.wpOp ho hS ⟨hS, H⟩
    · have h1 := (H.2 j (ready_mono hj hji)).2
      obtain ⟨hjun, oj, hoj, hall⟩ := mem_ready.1 hj
      have hno : ∀ e ∈ oj.after, Region.binds md e = true → e.on ≠ i := fun e he hb heq => by
        have h2 := hall e he hb
        rw [heq, getD_both hun] at h2
        cases h2
      have h2 := wpOp_putIf hoj (hfree j oj hoj hji hjun hno) (fun cs b => Region.noSelect_spec hsel i o cs b ho) (fun cs b => Region.noSelect_spec hsel j oj cs b hoj) hQ hy h1
      refine wpOp_mono (fun a' w' h3 => ⟨h3.2.1, ih (ls.setIfInBounds j true) a' w' (inv.set hj hjn) (fun k ok hk hki hku hkn => hfree k ok hk hki ?_ hkn) (ready_mono hr (Ne.symm hji)) h3.1 h3.2.1 ?_⟩) h2
      · by_cases hjk : j = k
        · subst hjk; exact hjun
        · rw [getD_set_ne true hjk] at hku; exact hku
      · rw [Array.setIfInBounds_comm _ _ hji]; exact h3.2.2
end

/-- The region's form: a head of n operations that all wait in the end for its last one, and a tail in one order. -/
def tailOkB (md : Region.Mode) (ops : Array Oper) (n : Nat) : Bool := Region.noSelect ops && decide (n < ops.size) && Region.sinkB md ops n && Region.chainB md ops n
/-- The walk's state in the head. -/
def HeadW (P : Program) (md : Region.Mode) (l : List Oper) (Q : Exit → Act → World → Prop) (S : World → Prop) (n : Nat) (f : Nat) (ls : Array Bool) (a : Act) (w : World) : Prop :=
  HeadInv md l.toArray n ls → HeadH P md l.toArray Q S n (fun ls' a' w' => Region.seqB md l.toArray (l.toArray.size - n) n ls' = true ∧ wpList P l.toArray Q (l.drop n) a' w') f ls a w
section
variable {P : Program} {md : Region.Mode} {l : List Oper} {Q : Exit → Act → World → Prop} {S : World → Prop} {n : Nat}
theorem tailOk_spec (h : tailOkB md l.toArray n = true) : Region.noSelect l.toArray = true ∧ n < l.toArray.size ∧ Region.sinkB md l.toArray n = true ∧ Region.chainB md l.toArray n = true := by
  simp only [tailOkB, Bool.and_eq_true, decide_eq_true_eq] at h
  obtain ⟨⟨⟨a, b⟩, c⟩, d⟩ := h
  exact ⟨a, b, c, d⟩
theorem region_held_tail {id : Nat} {a : Act} {w : World} (S : World → Prop) (n : Nat) (hm : P.follows .mixedOrders = true) (hB : tailOkB .any l.toArray n = true) (hS : S w.drew)
    (h : S w.drew → HeadW P .any l Q S n n (Array.replicate l.toArray.size false) a w.drew) : (Code.region id l.toArray true).wp P Q a w := by
  obtain ⟨_, hn, _, _⟩ := tailOk_spec hB
  have hdl : (l.drop n).length = l.toArray.size - n := by simp
  have inv0 : HeadInv .any l.toArray n (Array.replicate l.toArray.size false) :=
    ⟨by simp, fun j oj _ hl => (by rw [getD_replicate_false] at hl; cases hl), fun t _ ht => getD_in (by simpa using ht) (getD_replicate_false _ _)⟩
  have H := h hS inv0
  refine wp_region_any hm ?_
  have hfin := HeadH.any (g := l.toArray.size - n) (fun ls a' W hL => by
    have h1 := wpAny_of_seq (md := .any) (Q' := Q) (l.drop n) n ls a' W (fun j => by simp [List.getElem?_drop]) (by rw [hdl]; exact hL.1) hL.2
    rwa [hdl] at h1) _ _ _ _ H
  rw [show n + (l.toArray.size - n) = l.toArray.size from by omega] at hfin
  exact hfin
theorem HeadW.take {i : Nat} {o : Oper} {v : Value} {f : Nat} {ls : Array Bool} {a : Act} {w : World} (ho : l.toArray[i]? = some o) (hB : tailOkB md l.toArray n = true) (hin : i < n) (hf : Region.free md l.toArray ls i = true) (hr : (Region.ready md l.toArray ls).contains i = true)
    (hQ : ∀ c a w, Q (.panic c) (a.put o.dst v) w → Q (.panic c) a w) (hy : YieldsIf P l.toArray S o v a) (hS : S w) (h : HeadW P md l Q S n f (ls.setIfInBounds i true) (a.put o.dst v) w) : HeadW P md l Q S n (f + 1) ls a w := fun inv => by
  obtain ⟨hsel, hn, hs, hc⟩ := tailOk_spec hB
  have hr' : i ∈ Region.ready md l.toArray ls := by simpa using hr
  exact HeadH.first ho hsel hs hc hn hin (fun ls' a' w' hL => seqB_ready hL.1) hQ f ls a w inv (Region.free_spec ho hf) hr' hy hS (h (inv.set hr' hin))
theorem HeadW.one {i : Nat} {o : Oper} {f : Nat} {ls : Array Bool} {a : Act} {w : World} (hr : Region.ready md l.toArray ls = [i]) (hin : i < n) (ho : l.toArray[i]? = some o)
    (h : ∀ K' : Act → World → Prop, Shut (∀ a w, S w → (S w → HeadW P md l Q S n f (ls.setIfInBounds i true) a w) → K' a w) → if Region.wanted o (yielded l.toArray a.tmps) = true then Oper.wp P o a w K' Q else K' (a.put o.dst undef) w) :
    HeadW P md l Q S n (f + 1) ls a w := fun inv => ⟨by rw [hr]; simp, fun j hj => by
  have hj' := hj
  rw [hr] at hj
  obtain rfl : j = i := by simpa using hj
  exact ⟨hin, wpOp_step ho (fun K' hK => h K' (fun a w hS hW => hK a w ⟨hS, hW hS (inv.set hj' hin)⟩))⟩⟩
theorem HeadW.done {ls : Array Bool} {a : Act} {w : World} (hq : Region.seqB md l.toArray (l.toArray.size - n) n ls = true) (h : wpList P l.toArray Q (l.drop n) a w) : HeadW P md l Q S n 0 ls a w := fun _ => ⟨hq, h⟩
end
end
end Go.Proofs.YtanlejlmckdeiaaGreat
