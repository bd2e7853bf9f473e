/- The contract of rat.answer, for fractions, over a contract o. -/
import Derived.Test.YtbcphifjcaobfaaGreatDoorPkRp33
namespace Go.Proofs.YtbcphifjcaobfaaGreatDoor
open Go.RowKit
def RAns (w w' : World) (n d : Int) (er : Int) (e : Ending) : Prop := ∃ zs A1 c1 ys A2 c2, e = .returned (.tuple #[.agg #[.bool (isNeg n), .slice A1 zs.length c1, .bool (isNeg d), .slice A2 ys.length c2], .int .i64 er]) ∧ Num 4294967296 zs n.natAbs ∧ Num 4294967296 ys d.natAbs ∧ Res w' w.heap.size 50 A1 c1 (u32s zs) ∧ Res w' w.heap.size 50 A2 c2 (u32s ys) ∧ Below w.heap.size w w'
section
variable {w : World} {p u g : Nat} {x y z v : Value} {fn : Func} {tmps : Array Value}
theorem lvr (h : Blk w g 27 [x, y, z, v]) : (loadVar 27 ⟨g, 0, none⟩).run Tryz.prog w = .ok (.agg #[x, y, z, v]) w :=
 run_loadVar_row w g 27 27 #[x, y, z, v] (0, 0) _ h Tryz.underlying27 rfl (by kernel_rfl)
theorem results_rs (h : fn.results = #[.cell p 27, .tmp u]) (hp : tmps.getD p undef = .pointer (some ⟨g, 0, none⟩)) (hb : Blk w g 27 [x, y, z, v]) :
  (results fn tmps).run Tryz.prog w = .ok (.tuple #[.agg #[x, y, z, v], tmps.getD u undef]) w := by
 have hp' : tmps[p]?.getD undef = .pointer (some ⟨g, 0, none⟩) := by simpa using hp
 simp [results, h, hp', asAddr, lvr hb]
end
theorem ra_ret {fn : Func} {a : Act} {w W : World} {p q : Tmp} {r : Nat} {b b2 : Bool} {x y z u : Value} {n d er : Int} {zs ys : List Nat} {A1 A2 : Option Addr} {c1 c2 : Nat} (hbel : Below w.heap.size w W) (hB : Blk W r 27 [x, y, z, u]) (hr : w.heap.size ≤ r)
  (hz : Num 4294967296 zs n.natAbs) (hy : Num 4294967296 ys d.natAbs) (r1 : Res W w.heap.size 50 A1 c1 (u32s zs)) (r2 : Res W w.heap.size 50 A2 c2 (u32s ys)) (hb : b = isNeg n) (hb2 : b2 = isNeg d) (hres0 : fn.results = #[.cell p 27, .tmp q]) (hp : a.tmps.getD p undef = .pointer (some ⟨r, 0, none⟩)) (hq : a.tmps.getD q undef = .int .i64 er) (hd : a.defers = []) :
  bodyPost Tryz.prog fn (fun e w' => RAns w w' n d er e) .ret a ((((W.setCell ⟨r, 0, none⟩ (.bool b)).setCell ⟨r, 1, none⟩ (.slice A1 zs.length c1)).setCell ⟨r, 2, none⟩ (.bool b2)).setCell ⟨r, 3, none⟩ (.slice A2 ys.length c2)) := by
 subst hb hb2
 exact bodyPost_ret (results_rs hres0 hp (blk_quad hB _ _ _ _)) hd ⟨zs, A1, c1, ys, A2, c2, by rw [hq], hz, hy, res_rat4 r1 hB _ _ _ _, res_rat4 r2 hB _ _ _ _, bsc (bsc (bsc (bsc hbel hr _) hr _) hr _) hr _⟩
theorem RLs.next {w w' : World} {K : Nat} {A : Option Addr} {l : List RE1} (h : RLs w K A l) (hw : Below w.heap.size w w') : RLs w' K A l := fun k hk => by
 obtain ⟨b, off, e, hb, h0, h1, h2, h3, hr⟩ := h k hk
 exact ⟨b, off, e, Nat.lt_of_lt_of_le hb hw.size, (hw.cell (p := ⟨b, _, none⟩) hb).trans h0, (hw.cell (p := ⟨b, _, none⟩) hb).trans h1, (hw.cell (p := ⟨b, _, none⟩) hb).trans h2, (hw.cell (p := ⟨b, _, none⟩) hb).trans h3, hr.next hw⟩
set_option maxHeartbeats 3200000 in
theorem answer_norm_good {w : World} {K : Nat} {A : Option Addr} {c gp : Nat} (l : List RE1) (h : RLs w K A l) (hK : K ≤ 67108864) (hlen : l.length ≤ 1048576) (hg : ¬ anyBad l) (n d : Int) (CL : Hid (∀ W (_ : Below w.heap.size w W), Calls Tryz.prog 59 #[.pointer (some ⟨gp, 0, none⟩)] W fun e w' => ROut W w' n d e)) :
  Calls Tryz.prog 58 #[.func (.func 59) #[] #[.pointer (some ⟨gp, 0, none⟩)], .slice A l.length c] w fun e w' => RAns w w' n d 0 e := by
 have k0 := bel_one w (.cells #[.bool false, .slice none 0 0, .bool false, .slice none 0 0] 27)
 have b0 : Blk (w.alloc (.cells #[.bool false, .slice none 0 0, .bool false, .slice none 0 0] 27)) w.heap.size 27 [.bool false, .slice none 0 0, .bool false, .slice none 0 0] := Blk.new_ rfl
 have FA := hi9 (fault_any (c := c) l (h.next k0) hK hlen)
 clear h
 go_enter Tryz.func58, Tryz.ntmps58
 go_wp2_with fail
 obtain ⟨w0, hw0⟩ : ∃ v, v = w.alloc (.cells #[.bool false, .slice none 0 0, .bool false, .slice none 0 0] 27) := ⟨_, rfl⟩
 rw [← hw0] at k0 b0 FA ⊢
 clear hw0
 refine FA.out.mono ?_
 rintro e w1 ⟨v, rfl, hv, hb1⟩
 obtain rfl : v = 0 := by
  rcases hv with ⟨h1, _⟩ | ⟨_, h1⟩
  ·exact absurd h1 hg
  ·exact h1
 have k1 := bst k0 hb1 nl9
 have b1 := b0.below hb1 b0.lt
 clear FA b0 k0 hb1 hv
 go_wp2_with fail
 refine (CL.out _ k1).mono ?_
 rintro e w2 ⟨zs, A1, c1, ys, A2, c2, rfl, n1, n2, r1, r2, hb2⟩
 have b2 := b1.below hb2 b1.lt
 have k2 := bst k1 hb2 nl9
 obtain ⟨_, _, _, _, f0, f1, f2, f3⟩ := b2.four
 clear CL b1 hb2
 go_wp2_with fail
 exact ra_ret k2 b2 nl9 n1 n2 (r1.mono k1.size) (r2.mono k1.size) rfl rfl rfl rfl rfl rfl
set_option maxHeartbeats 3200000 in
theorem answer_norm_bad {w : World} {K : Nat} {A : Option Addr} {c gp : Nat} (l : List RE1) (h : RLs w K A l) (hK : K ≤ 67108864) (hlen : l.length ≤ 1048576) (hg : anyBad l) :
  Calls Tryz.prog 58 #[.func (.func 59) #[] #[.pointer (some ⟨gp, 0, none⟩)], .slice A l.length c] w fun e w' => RAns w w' 0 0 6 e := by
 have k0 := bel_one w (.cells #[.bool false, .slice none 0 0, .bool false, .slice none 0 0] 27)
 have b0 : Blk (w.alloc (.cells #[.bool false, .slice none 0 0, .bool false, .slice none 0 0] 27)) w.heap.size 27 [.bool false, .slice none 0 0, .bool false, .slice none 0 0] := Blk.new_ rfl
 have FA := hi9 (fault_any (c := c) l (h.next k0) hK hlen)
 clear h
 go_enter Tryz.func58, Tryz.ntmps58
 go_wp2_with fail
 obtain ⟨w0, hw0⟩ : ∃ v, v = w.alloc (.cells #[.bool false, .slice none 0 0, .bool false, .slice none 0 0] 27) := ⟨_, rfl⟩
 rw [← hw0] at k0 b0 FA ⊢
 clear hw0
 refine FA.out.mono ?_
 rintro e w1 ⟨v, rfl, hv, hb1⟩
 obtain rfl : v = 6 := by
  rcases hv with ⟨_, h1⟩ | ⟨h1, _⟩
  ·exact h1
  ·exact absurd hg h1
 have k1 := bst k0 hb1 nl9
 have b1 := (b0.below hb1 b0.lt).heapAlloc (.cells #[.bool false, .slice none 0 0, .bool false, .slice none 0 0] 27)
 have k2 := bal k1 nl9 (.cells #[.bool false, .slice none 0 0, .bool false, .slice none 0 0] 27)
 obtain ⟨_, _, _, _, f0, f1, f2, f3⟩ := b1.four
 clear FA b0 k0 hb1 hv
 go_wp2_with fail
 exact ra_ret (zs := []) (ys := []) k2 b1 nl9 (Num.zero_ _) (Num.zero_ _) Res.none_ Res.none_ rfl rfl rfl rfl rfl rfl
set_option maxHeartbeats 3200000 in
theorem answer_mul_good {w : World} {K : Nat} {A : Option Addr} {c gp gq : Nat} (l : List RE1) (h : RLs w K A l) (hK : K ≤ 67108864) (hlen : l.length ≤ 1048576) (hg : ¬ anyBad l) (n d : Int) (CL : Hid (∀ W (_ : Below w.heap.size w W), Calls Tryz.prog 85 #[.pointer (some ⟨gp, 0, none⟩), .pointer (some ⟨gq, 0, none⟩)] W fun e w' => ROut W w' n d e)) :
  Calls Tryz.prog 58 #[.func (.func 85) #[] #[.pointer (some ⟨gp, 0, none⟩), .pointer (some ⟨gq, 0, none⟩)], .slice A l.length c] w fun e w' => RAns w w' n d 0 e := by
 have k0 := bel_one w (.cells #[.bool false, .slice none 0 0, .bool false, .slice none 0 0] 27)
 have b0 : Blk (w.alloc (.cells #[.bool false, .slice none 0 0, .bool false, .slice none 0 0] 27)) w.heap.size 27 [.bool false, .slice none 0 0, .bool false, .slice none 0 0] := Blk.new_ rfl
 have FA := hi9 (fault_any (c := c) l (h.next k0) hK hlen)
 clear h
 go_enter Tryz.func58, Tryz.ntmps58
 go_wp2_with fail
 obtain ⟨w0, hw0⟩ : ∃ v, v = w.alloc (.cells #[.bool false, .slice none 0 0, .bool false, .slice none 0 0] 27) := ⟨_, rfl⟩
 rw [← hw0] at k0 b0 FA ⊢
 clear hw0
 refine FA.out.mono ?_
 rintro e w1 ⟨v, rfl, hv, hb1⟩
 obtain rfl : v = 0 := by
  rcases hv with ⟨h1, _⟩ | ⟨_, h1⟩
  ·exact absurd h1 hg
  ·exact h1
 have k1 := bst k0 hb1 nl9
 have b1 := b0.below hb1 b0.lt
 clear FA b0 k0 hb1 hv
 go_wp2_with fail
 refine (CL.out _ k1).mono ?_
 rintro e w2 ⟨zs, A1, c1, ys, A2, c2, rfl, n1, n2, r1, r2, hb2⟩
 have b2 := b1.below hb2 b1.lt
 have k2 := bst k1 hb2 nl9
 obtain ⟨_, _, _, _, f0, f1, f2, f3⟩ := b2.four
 clear CL b1 hb2
 go_wp2_with fail
 exact ra_ret k2 b2 nl9 n1 n2 (r1.mono k1.size) (r2.mono k1.size) rfl rfl rfl rfl rfl rfl
end Go.Proofs.YtbcphifjcaobfaaGreatDoor
