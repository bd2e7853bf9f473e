/- The contract of nat.Bit. The contracts of zint's Euclid, Trunc, Exact, Near and Of. A drawn region whose last operations stand in one order: a c. The contract of the reference's Euclid on integers. -/
import Derived.Test.YtbcphifjcaobfaaGreatDoorPkRp21
import Derived.Test.YtbcphifjcaobfaaGreatDoorPkRp5
import Derived.Test.YtbcphifjcaobfaaGreatDoorPkRp25
import Derived.Test.YtbcphifjcaobfaaGreatDoorPkRp26
import Derived.Test.YtbcphifjcaobfaaGreatDoorPkRp27
import Derived.Test.YtbcphifjcaobfaaGreatDoorPkRp28
import Derived.Test.YtbcphifjcaobfaaGreatDoorPkRp14
import Derived.Deep.RegionHeld
import Derived.Test.YtbcphifjcaobfaaGreatDoorPkRp24
namespace Go.Proofs.YtbcphifjcaobfaaGreatDoor
section
open Go.RowKit
end
section
open Go.RowKit
def ZQ (w w' : World) (q r er : Int) (e : Ending) : Prop := ∃ qs rs A1 c1 A3 c3, e = .returned (.tuple #[.agg #[.bool (isNeg q), .slice A1 qs.length c1], .agg #[.bool (isNeg r), .slice A3 rs.length c3], .int .i64 er]) ∧ Num 4294967296 qs q.natAbs ∧ Num 4294967296 rs r.natAbs ∧ Res w' w.heap.size 50 A1 c1 (u32s qs) ∧ Res w' w.heap.size 50 A3 c3 (u32s rs) ∧ Below w.heap.size w w'
def ZE (w w' : World) (q er : Int) (e : Ending) : Prop := ∃ qs A1 c1, e = .returned (.tuple #[.agg #[.bool (isNeg q), .slice A1 qs.length c1], .int .i64 er]) ∧ Num 4294967296 qs q.natAbs ∧ Res w' w.heap.size 50 A1 c1 (u32s qs) ∧ Below w.heap.size w w'
def euE (y : Int) : Int := if y = 0 then 5 else 0
section
variable {w : World} {g g2 : Bool} {A A2 : Option Addr} {c c2 K J : Nat} {xs ys : List Nat} {z y : Int}
def trQ (z y : Int) : Int := Int.tdiv z y
def trR (z y : Int) : Int := if y = 0 then 0 else Int.tmod z y
theorem divide_t (h : Zh w g A c xs z K) (h2 : Zh w g2 A2 c2 ys y J) (hK : K ≤ 67108864) (hJ : J ≤ 67108864) :
  Calls Tryz.prog 107 #[.agg #[.bool g, .slice A xs.length c], .agg #[.bool g2, .slice A2 ys.length c2], .int .i64 0] w fun e w' => ZQ w w' (trQ z y) (trR z y) (euE y) e := by
 by_cases hy : y = 0
 ·subst hy
  refine (divide_nought 0 h h2 hK hJ).mono ?_
  rintro e w' ⟨rfl, hb⟩
  have e1 : trQ z 0 = 0 := Int.tdiv_zero z
  rw [e1]
  exact ⟨[], [], none, 0, none, 0, rfl, Num.zero_ _, Num.zero_ _, Res.none_, Res.none_, hb⟩
 ·have e1 := tdiv_ival g g2 z.natAbs y.natAbs
  have e2 := tmod_ival g g2 z.natAbs y.natAbs
  rw [h.sg, h2.sg] at e1 e2
  have eE : euE y = 0 := if_neg hy
  have eR : trR z y = Int.tmod z y := if_neg hy
  rw [eE, eR, show trQ z y = Int.tdiv z y from rfl, e1, e2]
  cases g <;> cases g2
  ·exact divide_0ff h h2 hy hK hJ
  ·exact divide_0ft h h2 hy hK hJ
  ·exact divide_0tf h h2 hy hK hJ
  ·exact divide_0tt h h2 hy hK hJ
end
theorem zq_ret {fn : Func} {a : Act} {w W : World} {p q u : Tmp} {g g2 : Nat} {x y x2 y2 : Value} {Q R er : Int} {qs rs : List Nat} {A1 A3 : Option Addr} {c1 c3 : Nat} (k : Below w.heap.size w W) (b : Blk W g 25 [x, y]) (b2 : Blk W g2 25 [x2, y2]) (hne : g ≠ g2) (hg : w.heap.size ≤ g) (hg2 : w.heap.size ≤ g2)
  (hq : Num 4294967296 qs Q.natAbs) (hr : Num 4294967296 rs R.natAbs) (rq : Res W w.heap.size 50 A1 c1 (u32s qs)) (rr : Res W w.heap.size 50 A3 c3 (u32s rs)) (hres0 : fn.results = #[.cell p 25, .cell q 25, .tmp u]) (hp : a.tmps.getD p undef = .pointer (some ⟨g, 0, none⟩)) (hp2 : a.tmps.getD q undef = .pointer (some ⟨g2, 0, none⟩)) (hu : a.tmps.getD u undef = .int .i64 er) (hd : a.defers = []) :
  bodyPost Tryz.prog fn (fun e w' => ZQ w w' Q R er e) .ret a ((((W.setCell ⟨g, 0, none⟩ (.bool (isNeg Q))).setCell ⟨g, 1, none⟩ (.slice A1 qs.length c1)).setCell ⟨g2, 0, none⟩ (.bool (isNeg R))).setCell ⟨g2, 1, none⟩ (.slice A3 rs.length c3)) := by
 have e4 : Blk ((W.setCell ⟨g, 0, none⟩ (.bool (isNeg Q))).setCell ⟨g, 1, none⟩ (.slice A1 qs.length c1)) g2 25 [x2, y2] := (b2.far (p := ⟨g, 0, none⟩) (fun e => hne e.symm) _).far (p := ⟨g, 1, none⟩) (fun e => hne e.symm) _
 exact bodyPost_ret (results_zzs hres0 hp hp2 (((blk_pair b _ _).far (p := ⟨g2, 0, none⟩) hne _).far (p := ⟨g2, 1, none⟩) hne _) (blk_pair e4 _ _)) hd ⟨qs, rs, A1, c1, A3, c3, by rw [hu], hq, hr, res_var2 (res_var2 rq b _ _) e4 _ _, res_var2 (res_var2 rr b _ _) e4 _ _, bsc (bsc (bsc (bsc k hg _) hg _) hg2 _) hg2 _⟩
theorem ze_ret {fn : Func} {a : Act} {w W : World} {p u : Tmp} {g : Nat} {x y : Value} {b : Bool} {Q er : Int} {qs : List Nat} {A1 : Option Addr} {c1 : Nat} (k : Below w.heap.size w W) (hb : Blk W g 25 [x, y]) (hg : w.heap.size ≤ g)
  (hq : Num 4294967296 qs Q.natAbs) (rq : Res W w.heap.size 50 A1 c1 (u32s qs)) (hbq : b = isNeg Q) (hres0 : fn.results = #[.cell p 25, .tmp u]) (hp : a.tmps.getD p undef = .pointer (some ⟨g, 0, none⟩)) (hu : a.tmps.getD u undef = .int .i64 er) (hd : a.defers = []) :
  bodyPost Tryz.prog fn (fun e w' => ZE w w' Q er e) .ret a ((W.setCell ⟨g, 0, none⟩ (.bool b)).setCell ⟨g, 1, none⟩ (.slice A1 qs.length c1)) := by
 subst hbq
 exact bodyPost_ret (results_zs hres0 hp (blk_pair hb _ _)) hd ⟨qs, A1, c1, by rw [hu], hq, res_var2 rq hb _ _, bsc (bsc k hg _) hg _⟩
section
variable {w : World} {g g2 : Bool} {A A2 : Option Addr} {c c2 K J : Nat} {xs ys : List Nat} {z y : Int}
set_option maxHeartbeats 1600000 in
theorem Zh.trunc (h : Zh w g A c xs z K) (h2 : Zh w g2 A2 c2 ys y J) (hK : K ≤ 67108864) (hJ : J ≤ 67108864) :
  Calls Tryz.prog 127 #[.agg #[.bool g, .slice A xs.length c], .agg #[.bool g2, .slice A2 ys.length c2]] w fun e w' => ZQ w w' (trQ z y) (trR z y) (euE y) e := by
 have D1 : Hid (∀ W (_ : Below w.heap.size w W), Calls Tryz.prog 107 #[.agg #[.bool g, .slice A xs.length c], .agg #[.bool g2, .slice A2 ys.length c2], .int .i64 0] W fun e w' => ZQ W w' (trQ z y) (trR z y) (euE y) e) := fun W hW => divide_t (h.next hW) (h2.next hW) hK hJ
 clear h h2
 obtain ⟨b0, b1, b2, b3⟩ := blk_four w (.bool g) (.slice A xs.length c) (.bool g2) (.slice A2 ys.length c2) (.bool false) (.slice none 0 0) (.bool false) (.slice none 0 0)
 have k0 := bel_four w (.cells #[.bool g, .slice A xs.length c] 25) (.cells #[.bool g2, .slice A2 ys.length c2] 25) (.cells #[.bool false, .slice none 0 0] 25) (.cells #[.bool false, .slice none 0 0] 25)
 go_enter Tryz.func127, Tryz.ntmps127
 go_wp2_with fail
 refine (D1.out _ k0).mono ?_
 rintro e w1 ⟨qs, rs, A1, c1, A3, c3, rfl, hq, hr, rq, rr, hb1⟩
 have hsz := k0.size
 have k1 := bst k0 hb1 nl9
 replace b2 := b2.below hb1 b2.lt
 replace b3 := b3.below hb1 b3.lt
 obtain ⟨p0, p1, p2, p3⟩ := b2.two
 obtain ⟨q0, q1, q2, q3⟩ := b3.two
 go_wp2_with fail
 exact zq_ret k1 b2 b3 (by omega) (by omega) (by omega) hq hr (rq.mono hsz) (rr.mono hsz) rfl rfl rfl rfl rfl
def exE (z y : Int) : Int := if y = 0 then 5 else if Int.tmod z y = 0 then 0 else 30
def exQ (z y : Int) : Int := if y = 0 then 0 else if Int.tmod z y = 0 then Int.tdiv z y else 0
set_option maxHeartbeats 3200000 in
theorem Zh.exact (h : Zh w g A c xs z K) (h2 : Zh w g2 A2 c2 ys y J) (hK : K ≤ 67108864) (hJ : J ≤ 67108864) :
  Calls Tryz.prog 95 #[.agg #[.bool g, .slice A xs.length c], .agg #[.bool g2, .slice A2 ys.length c2]] w fun e w' => ZE w w' (exQ z y) (exE z y) e := by
 have D1 : Hid (∀ W (_ : Below w.heap.size w W), Calls Tryz.prog 127 #[.agg #[.bool g, .slice A xs.length c], .agg #[.bool g2, .slice A2 ys.length c2]] W fun e w' => ZQ W w' (trQ z y) (trR z y) (euE y) e) := fun W hW => (h.next hW).trunc (h2.next hW) hK hJ
 obtain ⟨b0, b1, b2⟩ := blk_three w (.bool g) (.slice A xs.length c) (.bool g2) (.slice A2 ys.length c2) (.bool false) (.slice none 0 0)
 have k0 := bel_three w (.cells #[.bool g, .slice A xs.length c] 25) (.cells #[.bool g2, .slice A2 ys.length c2] 25) (.cells #[.bool false, .slice none 0 0] 25)
 have hyl := h2.hv.lt
 have hzl : (Int.tmod z y).natAbs = z.natAbs % y.natAbs := by
  have e2 := tmod_ival g g2 z.natAbs y.natAbs
  rw [h.sg, h2.sg] at e2
  rw [e2, abs_ival]
 clear h h2
 by_cases hy : y = 0
 ·have eE : euE y = 5 := if_pos hy
  rw [eE] at D1
  have e1 : exE z y = 5 := if_pos hy
  have e2 : exQ z y = 0 := if_pos hy
  rw [e1, e2]
  clear hy eE e1 e2 hyl hzl
  go_enter Tryz.func95, Tryz.ntmps95
  go_wp2_with fail
  refine (D1.out _ k0).mono ?_
  rintro e w1 ⟨qs, rs, A1, c1, A3, c3, rfl, hq, hr, rq, rr, hb1⟩
  have k1 := bst k0 hb1 nl9
  replace b2 := b2.below hb1 b2.lt
  have hz : w.heap.size + 1 + 1 < w1.heap.size := b2.lt
  obtain ⟨p0, p1, p2, p3⟩ := b2.two
  obtain ⟨p4, p5, p6, p7⟩ := ((b2.heapAlloc (.cells #[.bool (isNeg (trQ z y)), .slice A1 qs.length c1] 25)).heapAlloc (.cells #[.bool (isNeg (trR z y)), .slice A3 rs.length c3] 25)).two
  go_wp2_with fail
  exact ze_ret (qs := []) (bal (bal k1 nl9 _) nl9 _) ((b2.heapAlloc _).heapAlloc _) (by omega) (Num.zero_ _) Res.none_ rfl rfl rfl rfl rfl
 ·have eE : euE y = 0 := if_neg hy
  have eR : trR z y = Int.tmod z y := if_neg hy
  rw [eE, eR] at D1
  have hRl : (Int.tmod z y).natAbs < 4294967296 ^ J := by
   have := Nat.mod_lt z.natAbs (show 0 < y.natAbs by omega)
   omega
  obtain ⟨R, hR⟩ : ∃ R, R = Int.tmod z y := ⟨_, rfl⟩
  rw [← hR] at D1 hRl
  by_cases h0 : R = 0
  ·have e1 : exE z y = 0 := by unfold exE; rw [if_neg hy, if_pos (by rw [← hR]; exact h0)]
   have e2 : exQ z y = trQ z y := by unfold exQ; rw [if_neg hy, if_pos (by rw [← hR]; exact h0)]; rfl
   rw [e1, e2]
   have d0 : decide (R = 0) = true := decide_eq_true h0
   have D0 := hi9 d0
   clear hy eE eR e1 e2 hR h0 d0 hyl hzl
   go_enter Tryz.func95, Tryz.ntmps95
   go_wp2_with fail
   refine (D1.out _ k0).mono ?_
   rintro e w1 ⟨qs, rs, A1, c1, A3, c3, rfl, hq, hr, rq, rr, hb1⟩
   have hsz := k0.size
   have k1 := bst k0 hb1 nl9
   replace b2 := b2.below hb1 b2.lt
   have hz := b2.lt
   have Z1 : Hid (∀ W (_ : Below w1.heap.size w1 W), Calls Tryz.prog 103 #[.agg #[.bool (isNeg R), .slice A3 rs.length c3]] W fun e w' => e = .returned (.bool true) ∧ Below W.heap.size W w') := fun W hW => by
    have := (((Zn.shrink hr rr hRl).next hW).zh).isZero hJ
    rwa [D0.out] at this
   have Hq := hi9 hq
   have Rq := hi9 rq
   clear hq hr rq rr
   go_wp2_with fail
   refine (Z1.out _ (bal (bal br9 nl9 _) nl9 _)).mono ?_
   rintro e w2 ⟨rfl, hb2⟩
   have c1' : Blk w2 w1.heap.size 25 [.bool (isNeg (trQ z y)), .slice A1 qs.length c1] := ((Blk.new_ (w := w1) (t := 25) (cs := #[.bool (isNeg (trQ z y)), .slice A1 qs.length c1]) (vs := [.bool (isNeg (trQ z y)), .slice A1 qs.length c1]) rfl).heapAlloc _).below hb2 (by simp <;> omega)
   have j2 : Below w1.heap.size w1 w2 := bst (bal (bal br9 nl9 _) nl9 _) hb2 nl9
   have b9 := b2.below j2 b2.lt
   obtain ⟨p0, p1, p2, p3⟩ := b9.two
   obtain ⟨q0, q1, q2, q3⟩ := c1'.two
   go_wp2_with fail
   exact ze_ret (bst k1 j2 nl9) b9 (by omega) Hq.out ((Rq.out.below j2 nl9).mono hsz) rfl rfl rfl rfl rfl
  ·have e1 : exE z y = 30 := by unfold exE; rw [if_neg hy, if_neg (by rw [← hR]; exact h0)]
   have e2 : exQ z y = 0 := by unfold exQ; rw [if_neg hy, if_neg (by rw [← hR]; exact h0)]
   rw [e1, e2]
   have d0 : decide (R = 0) = false := decide_eq_false h0
   have D0 := hi9 d0
   clear hy eE eR e1 e2 hR h0 d0 hyl hzl
   go_enter Tryz.func95, Tryz.ntmps95
   go_wp2_with fail
   refine (D1.out _ k0).mono ?_
   rintro e w1 ⟨qs, rs, A1, c1, A3, c3, rfl, hq, hr, rq, rr, hb1⟩
   have k1 := bst k0 hb1 nl9
   replace b2 := b2.below hb1 b2.lt
   have hz := b2.lt
   have Z1 : Hid (∀ W (_ : Below w1.heap.size w1 W), Calls Tryz.prog 103 #[.agg #[.bool (isNeg R), .slice A3 rs.length c3]] W fun e w' => e = .returned (.bool false) ∧ Below W.heap.size W w') := fun W hW => by
    have := (((Zn.shrink hr rr hRl).next hW).zh).isZero hJ
    rwa [D0.out] at this
   clear hq hr rq rr
   go_wp2_with fail
   refine (Z1.out _ (bal (bal br9 nl9 _) nl9 _)).mono ?_
   rintro e w2 ⟨rfl, hb2⟩
   have j2 : Below w1.heap.size w1 w2 := bst (bal (bal br9 nl9 _) nl9 _) hb2 nl9
   have b9 := b2.below j2 b2.lt
   obtain ⟨p0, p1, p2, p3⟩ := b9.two
   go_wp2_with fail
   exact ze_ret (qs := []) (bst k1 j2 nl9) b9 (by omega) (Num.zero_ _) Res.none_ rfl rfl rfl rfl rfl
end
end
section
open Go
def HeadH (P : Program) (md : Region.Mode) (ops : Array Oper) (Q : Exit → Act → World → Prop) (S : World → Prop) (n : Nat) (L : Array Bool → Act → World → Prop) : Nat → Array Bool → Act → World → Prop
 | 0, ls, a, w => L ls a w
 | f + 1, ls, a, w => Region.ready md ops ls ≠ [] ∧ ∀ i ∈ Region.ready md ops ls, i < n ∧ wpOp P ops Q i (fun a' w' => S w' ∧ HeadH P md ops Q S n L f (ls.setIfInBounds i true) a' w') a w
section
variable {P : Program} {md : Region.Mode} {ops : Array Oper} {Q : Exit → Act → World → Prop} {S : World → Prop} {n : Nat} {L : Array Bool → Act → World → Prop}
theorem HeadH.any {g : Nat} (hL : ∀ ls a w, L ls a w → wpAny P md ops Q g ls a w) :
  ∀ f ls a w, HeadH P md ops Q S n L f ls a w → wpAny P md ops Q (f + g) ls a w
 | 0, ls, a, w, h => by rw [Nat.zero_add]; exact hL ls a w h
 | f + 1, ls, a, w, h => by
  rw [show f + 1 + g = (f + g) + 1 from by omega]
  exact ⟨fun h0 => absurd h0 h.1, fun i hi => wpOp_mono (fun a' w' h' => HeadH.any hL f _ a' w' h'.2) (h.2 i hi).2⟩
theorem HeadH.first {i : Nat} {o : Oper} {v : Value} (ho : ops[i]? = some o) (hsel : Region.noSelect ops = true) (hs : Region.sinkB md ops n = true) (hc : Region.chainB md ops n = true) (hn : n < ops.size) (hin : i < n)
  (hend : ∀ ls a w, L ls a w → ∀ j ∈ Region.ready md ops ls, n ≤ j) (hQ : ∀ c a w, Q (.panic c) (a.put o.dst v) w → Q (.panic c) a w) :
  ∀ f ls a w, HeadInv md ops n ls → (∀ j oj, ops[j]? = some oj → j ≠ i → ls.getD j true = false → (∀ e ∈ oj.after, Region.binds md e = true → e.on ≠ i) → o.apart ops oj = true) →
   i ∈ Region.ready md ops ls → YieldsIf P ops S o v a → S w → HeadH P md ops Q S n L f (ls.setIfInBounds i true) (a.put o.dst v) w → HeadH P md ops Q S n L (f + 1) ls a w := by
 intro f
 induction f with
 | zero =>
  intro ls a w inv _ hr hy hS H
  have hun := (mem_ready.1 hr).1
  refine ⟨fun h => (by rw [h] at hr; cases hr), fun j hj => ?_⟩
  have hjn : j < n := (Nat.lt_or_ge j n).resolve_right fun h => absurd hj (tail_waits hs hc hn inv _ i rfl hin hun j h)
  refine ⟨hjn, ?_⟩
  by_cases hji : j = i
  ·subst hji; exact hy.wpOp ho hS ⟨hS, H⟩
  ·exact absurd (hend _ _ _ H j (ready_mono hj hji)) (by omega)
 | succ f ih =>
  intro ls a w inv hfree hr hy hS H
  have hun := (mem_ready.1 hr).1
  refine ⟨fun h => (by rw [h] at hr; cases hr), fun j hj => ?_⟩
  have hjn : j < n := (Nat.lt_or_ge j n).resolve_right fun h => absurd hj (tail_waits hs hc hn inv _ i rfl hin hun j h)
  refine ⟨hjn, ?_⟩
  by_cases hji : j = i
  ·subst hji; exact hy.wpOp ho hS ⟨hS, H⟩
  ·have h1 := (H.2 j (ready_mono hj hji)).2
   obtain ⟨hjun, oj, hoj, hall⟩ := mem_ready.1 hj
   have hno : ∀ e ∈ oj.after, Region.binds md e = true → e.on ≠ i := fun e he hb heq => by
    have h2 := hall e he hb
    rw [heq, getD_both hun] at h2
    cases h2
   have h2 := wpOp_putIf hoj (hfree j oj hoj hji hjun hno) (fun cs b => Region.noSelect_spec hsel i o cs b ho) (fun cs b => Region.noSelect_spec hsel j oj cs b hoj) hQ hy h1
   refine wpOp_mono (fun a' w' h3 => ⟨h3.2.1, ih (ls.setIfInBounds j true) a' w' (inv.set hj hjn) (fun k ok hk hki hku hkn => hfree k ok hk hki ?_ hkn) (ready_mono hr (Ne.symm hji)) h3.1 h3.2.1 ?_⟩) h2
   ·by_cases hjk : j = k
    ·subst hjk; exact hjun
    ·rw [getD_set_ne true hjk] at hku; exact hku
   ·rw [Array.setIfInBounds_comm _ _ hji]; exact h3.2.2
end
def tailOkB (md : Region.Mode) (ops : Array Oper) (n : Nat) : Bool := Region.noSelect ops && decide (n < ops.size) && Region.sinkB md ops n && Region.chainB md ops n
def HeadW (P : Program) (md : Region.Mode) (l : List Oper) (Q : Exit → Act → World → Prop) (S : World → Prop) (n : Nat) (f : Nat) (ls : Array Bool) (a : Act) (w : World) : Prop :=
 HeadInv md l.toArray n ls → HeadH P md l.toArray Q S n (fun ls' a' w' => Region.seqB md l.toArray (l.toArray.size - n) n ls' = true ∧ wpList P l.toArray Q (l.drop n) a' w') f ls a w
section
variable {P : Program} {md : Region.Mode} {l : List Oper} {Q : Exit → Act → World → Prop} {S : World → Prop} {n : Nat}
theorem tailOk_spec (h : tailOkB md l.toArray n = true) : Region.noSelect l.toArray = true ∧ n < l.toArray.size ∧ Region.sinkB md l.toArray n = true ∧ Region.chainB md l.toArray n = true := by
 simp only [tailOkB, Bool.and_eq_true, decide_eq_true_eq] at h
 obtain ⟨⟨⟨a, b⟩, c⟩, d⟩ := h
 exact ⟨a, b, c, d⟩
theorem region_held_tail {id : Nat} {a : Act} {w : World} (S : World → Prop) (n : Nat) (hm : P.follows .mixedOrders = true) (hB : tailOkB .any l.toArray n = true) (hS : S w.drew)
  (h : S w.drew → HeadW P .any l Q S n n (Array.replicate l.toArray.size false) a w.drew) : (Code.region id l.toArray true).wp P Q a w := by
 obtain ⟨_, hn, _, _⟩ := tailOk_spec hB
 have hdl : (l.drop n).length = l.toArray.size - n := by simp
 have inv0 : HeadInv .any l.toArray n (Array.replicate l.toArray.size false) :=
  ⟨by simp, fun j oj _ hl => (by rw [getD_replicate_false] at hl; cases hl), fun t _ ht => getD_in (by simpa using ht) (getD_replicate_false _ _)⟩
 have H := h hS inv0
 refine wp_region_any hm ?_
 have hfin := HeadH.any (g := l.toArray.size - n) (fun ls a' W hL => by
  have h1 := wpAny_of_seq (md := .any) (Q' := Q) (l.drop n) n ls a' W (fun j => by simp [List.getElem?_drop]) (by rw [hdl]; exact hL.1) hL.2
  rwa [hdl] at h1) _ _ _ _ H
 rw [show n + (l.toArray.size - n) = l.toArray.size from by omega] at hfin
 exact hfin
theorem HeadW.take {i : Nat} {o : Oper} {v : Value} {f : Nat} {ls : Array Bool} {a : Act} {w : World} (ho : l.toArray[i]? = some o) (hB : tailOkB md l.toArray n = true) (hin : i < n) (hf : Region.free md l.toArray ls i = true) (hr : (Region.ready md l.toArray ls).contains i = true)
  (hQ : ∀ c a w, Q (.panic c) (a.put o.dst v) w → Q (.panic c) a w) (hy : YieldsIf P l.toArray S o v a) (hS : S w) (h : HeadW P md l Q S n f (ls.setIfInBounds i true) (a.put o.dst v) w) : HeadW P md l Q S n (f + 1) ls a w := fun inv => by
 obtain ⟨hsel, hn, hs, hc⟩ := tailOk_spec hB
 have hr' : i ∈ Region.ready md l.toArray ls := by simpa using hr
 exact HeadH.first ho hsel hs hc hn hin (fun ls' a' w' hL => seqB_ready hL.1) hQ f ls a w inv (Region.free_spec ho hf) hr' hy hS (h (inv.set hr' hin))
theorem HeadW.one {i : Nat} {o : Oper} {f : Nat} {ls : Array Bool} {a : Act} {w : World} (hr : Region.ready md l.toArray ls = [i]) (hin : i < n) (ho : l.toArray[i]? = some o)
  (h : ∀ K' : Act → World → Prop, Shut (∀ a w, S w → (S w → HeadW P md l Q S n f (ls.setIfInBounds i true) a w) → K' a w) → if Region.wanted o (yielded l.toArray a.tmps) = true then Oper.wp P o a w K' Q else K' (a.put o.dst undef) w) :
  HeadW P md l Q S n (f + 1) ls a w := fun inv => ⟨by rw [hr]; simp, fun j hj => by
 have hj' := hj
 rw [hr] at hj
 obtain rfl : j = i := by simpa using hj
 exact ⟨hin, wpOp_step ho (fun K' hK => h K' (fun a w hS hW => hK a w ⟨hS, hW hS (inv.set hj' hin)⟩))⟩⟩
theorem HeadW.done {ls : Array Bool} {a : Act} {w : World} (hq : Region.seqB md l.toArray (l.toArray.size - n) n ls = true) (h : wpList P l.toArray Q (l.drop n) a w) : HeadW P md l Q S n 0 ls a w := fun _ => ⟨hq, h⟩
end
end
section
open Go.RowKit
def ZZ (w w' : World) (q r : Int) (e : Ending) : Prop := ∃ qs rs A1 c1 A3 c3, e = .returned (.tuple #[.agg #[.bool (isNeg q), .slice A1 qs.length c1], .agg #[.bool (isNeg r), .slice A3 rs.length c3]]) ∧ Num 4294967296 qs q.natAbs ∧ Num 4294967296 rs r.natAbs ∧ Res w' w.heap.size 50 A1 c1 (u32s qs) ∧ Res w' w.heap.size 50 A3 c3 (u32s rs) ∧ Below w.heap.size w w'
theorem zz_ret {fn : Func} {a : Act} {w W : World} {p q : Tmp} {g g2 K J : Nat} {Q R : Int} (k : Below w.heap.size w W) (v : Vr w.heap.size W g Q K) (v2 : Vr w.heap.size W g2 R J)
  (hres0 : fn.results = #[.cell p 25, .cell q 25]) (hp : a.tmps.getD p undef = .pointer (some ⟨g, 0, none⟩)) (hp2 : a.tmps.getD q undef = .pointer (some ⟨g2, 0, none⟩)) (hd : a.defers = []) :
  bodyPost Tryz.prog fn (fun e w' => ZZ w w' Q R e) .ret a W := by
 obtain ⟨A1, c1, qs, b1, n1, r1, l1⟩ := v
 obtain ⟨A3, c3, rs, b3, n3, r3, l3⟩ := v2
 exact bodyPost_ret (results_zz hres0 hp hp2 b1 b3) hd ⟨qs, rs, A1, c1, A3, c3, rfl, n1, n3, r1, r3, k⟩
def EuS (w : World) (z y X Y : Int) (K J g8 : Nat) (W : World) : Prop :=
 Vr w.heap.size W w.heap.size z K ∧ Vr w.heap.size W (w.heap.size + 1) y J ∧ Blk W (w.heap.size + 2) 25 [.bool false, .slice none 0 0] ∧ Blk W (w.heap.size + 3) 25 [.bool false, .slice none 0 0] ∧
 Vr w.heap.size W g8 X K ∧ Vr w.heap.size W (g8 + 1) Y J ∧ w.heap.size + 3 < g8 ∧ Below w.heap.size w W
theorem EuS.next {w wa wb : World} {z y X Y : Int} {K J g8 : Nat} (s : EuS w z y X Y K J g8 wa) (h : Below wa.heap.size wa wb) : EuS w z y X Y K J g8 wb := by
 obtain ⟨a, b, c, d, e, f, o, k⟩ := s
 exact ⟨a.next h, b.next h, c.below h c.lt, d.below h d.lt, e.next h, f.next h, o, bst k h nl9⟩
end
end Go.Proofs.YtbcphifjcaobfaaGreatDoor
