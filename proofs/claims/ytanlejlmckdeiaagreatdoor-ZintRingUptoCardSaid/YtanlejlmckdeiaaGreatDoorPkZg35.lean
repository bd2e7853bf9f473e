/- The contract of the reference's Copy; an append that is known whole; steps that keep limbs. No conditions beyond the sizes. The contract of zint.Bezout. Conditions: at most 2^20 limbs each. -/
import Derived.Test.YtanlejlmckdeiaaGreatDoorPkZg29
import Derived.Test.YtanlejlmckdeiaaGreatDoorPkZg34
import Derived.Test.YtanlejlmckdeiaaGreatDoorPkZg24
import Derived.Test.YtanlejlmckdeiaaGreatDoorPkZg32
namespace Go.Proofs.YtanlejlmckdeiaaGreatDoor
section
open Go.RowKit

/-- A slice at the head of a row of limbs of the call's own, whatever its room. -/
def Rs (w : World) (B : Nat) (A : Option Addr) (vs : List Value) : Prop := vs ≠ [] → ∃ g rest, A = some ⟨g, 0, none⟩ ∧ B ≤ g ∧ Blk w g 61 (vs ++ rest)
section
variable {w w' : World} {B B2 g : Nat} {A : Option Addr} {vs : List Value} {x y : Value}
theorem Res.rs {c : Nat} (h : Res w B 61 A c vs) : Rs w B A vs := fun hn => by
  obtain ⟨g, rest, e, hg, hk, _⟩ := h.2.2 hn
  exact ⟨g, rest, e, hg, hk⟩
theorem Rs.rd (h : Rs w B A vs) : Rd w w.heap.size A vs := fun hn => by
  obtain ⟨g, rest, rfl, _, hb⟩ := h hn
  exact Rd.of_blk hb hb.lt 0 (fun k v hv => by
    rw [Nat.zero_add, List.getElem?_append_left (List.getElem?_eq_some_iff.1 hv).1]; exact hv) hn
theorem Rs.next (h : Rs w B A vs) (hb : Below w.heap.size w w') : Rs w' B A vs := fun hn => by
  obtain ⟨g, rest, e, hg, hk⟩ := h hn
  exact ⟨g, rest, e, hg, hk.below hb hk.lt⟩
theorem Rs.mono (h : Rs w B A vs) (hB : B2 ≤ B) : Rs w B2 A vs := fun hn => by
  obtain ⟨g, rest, e, hg, hk⟩ := h hn
  exact ⟨g, rest, e, by omega, hk⟩
theorem Rs.al (h : Rs w B A vs) (o : Obj) : Rs (w.alloc o) B A vs := h.next ((Below.refl _ _).alloc (Nat.le_refl _) o)
theorem Rs.dw (h : Rs w B A vs) : Rs w.drew B A vs := h
theorem Rs.dn (h : Rs w B A vs) (n : Nat) : Rs (w.drewN n) B A vs := h
theorem Rs.var2 (h : Rs w B A vs) (hB : Blk w g 28 [x, y]) (u v : Value) : Rs ((w.setCell ⟨g, 0, none⟩ u).setCell ⟨g, 1, none⟩ v) B A vs := fun hn => by
  obtain ⟨b, rest, e, hb, hk⟩ := h hn
  have hne : b ≠ g := by
    rintro rfl
    unfold Blk at hk hB
    rw [hk] at hB
    have hB2 := Option.some.inj hB
    injection hB2 with _ e2 _
    exact type_ne e2
  exact ⟨b, rest, e, hb, (hk.far (p := ⟨g, 0, none⟩) hne _).far (p := ⟨g, 1, none⟩) hne _⟩
end
theorem own_rs {w : World} {base : Nat} {v : Value} {n : Nat} {xs : List Value} (h : w.ownsRow base 61 1 v n xs) : ∃ A c, v = .slice A n c ∧ n ≤ c ∧ Rs w base A xs := by
  obtain ⟨hl, h1 | ⟨g, cap, cur, rfl, hg, hh, hnc, hcm, hsz, ht⟩⟩ := h
  · obtain ⟨rfl, rfl⟩ := h1
    have : xs = [] := List.eq_nil_of_length_eq_zero (by simpa using hl)
    subst this
    exact ⟨none, 0, rfl, Nat.le_refl _, fun h => absurd rfl h⟩
  · have hl' : xs.length = n := by simpa using hl
    have hb : Blk w g 61 cur.toList := by simpa [Blk] using hh
    have e1 : cur.toList = xs ++ cur.toList.drop xs.length := by
      conv => lhs; rw [← List.take_append_drop xs.length cur.toList]
      congr 1
      rw [hl']; simpa using ht
    exact ⟨_, cap, rfl, hnc, fun _ => ⟨g, cur.toList.drop xs.length, rfl, hg, by rw [← e1]; exact hb⟩⟩
theorem res_al {w : World} {B : Nat} {t : TypeId} {A : Option Addr} {c : Nat} {vs : List Value} (h : Res w B t A c vs) (o : Obj) : Res (w.alloc o) B t A c vs := h.below ((Below.refl _ _).alloc (Nat.le_refl _) o) (Nat.le_refl _)
theorem res_dw {w : World} {B : Nat} {t : TypeId} {A : Option Addr} {c : Nat} {vs : List Value} (h : Res w B t A c vs) : Res w.drew B t A c vs := h
theorem res_dn {w : World} {B n : Nat} {t : TypeId} {A : Option Addr} {c : Nat} {vs : List Value} (h : Res w B t A c vs) : Res (w.drewN n) B t A c vs := h
set_option maxRecDepth 20000 in
set_option maxHeartbeats 1600000 in
theorem copy_any {w : World} {g : Bool} {A : Option Addr} {c : Nat} {xs : List Nat} (hr : Rd w w.heap.size A (u32s xs)) (hm : xs.length ≤ 35184372088000) :
    Calls Tryz.prog 35 #[.agg #[.bool g, .slice A xs.length c]] w fun e w' => ∃ A' c', e = .returned (.agg #[.bool g, .slice A' xs.length c']) ∧ xs.length ≤ c' ∧ Rs w' w.heap.size A' (u32s xs) ∧ Below w.heap.size w w' := by
  have k0 := bel_two w (.cells #[.bool g, .slice A xs.length c] 28) (.cells #[.bool false, .slice none 0 0] 28)
  obtain ⟨b0, b1⟩ := blk_pair2 w (.bool g) (.slice A xs.length c) (.bool false) (.slice none 0 0)
  obtain ⟨i0, hi, hz0, hz1, hz2⟩ := info_parts Tryz.info32
  go_enter Tryz.func35, Tryz.ntmps35
  go_wp2_with fail
  obtain ⟨w0, hw0⟩ : ∃ w0, w0 = (w.alloc (.cells #[.bool g, .slice A xs.length c] 28)).alloc (.cells #[.bool false, .slice none 0 0] 28) := ⟨_, rfl⟩
  rw [← hw0] at b0 b1 k0 ⊢
  clear hw0
  have RW : Hid (∀ W (_ : Below w0.heap.size w0 W), Rd W w.heap.size A (u32s xs)) := fun W hW => hr.below (bst k0 hW (Nat.le_refl _))
  have B0 := Lib.hid b0
  have B1 := Lib.hid b1
  have K0 := Lib.hid k0
  have s0 : w.heap.size ≤ w0.heap.size := k0.size
  obtain ⟨p0, p1, _, _⟩ := b0.two
  obtain ⟨q0, q1, q2, q3⟩ := b1.two
  have n1 : w.heap.size ≠ w.heap.size + 1 := by omega
  have n2 : w.heap.size + 1 ≠ w.heap.size := by omega
  have q8 : w.heap.size < w0.heap.size := b0.lt
  have q9 : w.heap.size + 1 < w0.heap.size := b1.lt
  clear b0 b1 k0 hr
  go_region_held3 (fun W => W.cell? ⟨w.heap.size, 0, none⟩ = some (.bool g) ∧ W.cell? ⟨w.heap.size, 1, none⟩ = some (.slice A xs.length c)) (go_keep) (first
      | (refine step_app rfl (.tmp 5) (.tmp 7) 26 rfl 61 i0 (.int .u32 0) 4 Tryz.underlying26 hi hz0 hz1 hz2 rfl w0.heap.size 0 A xs.length c (by simp [Act.eval]) (by simp [Act.eval]) [] (u32s xs) w.heap.size (by first | exact Blk.new_ rfl | exact (Blk.new_ rfl).drew | exact (Blk.new_ rfl).drewN _) rfl (RW.out _ (by first | exact bal (Below.refl _ _) (Nat.le_refl _) _ | exact bdw (bal (Below.refl _ _) (Nat.le_refl _) _) | exact bdn (bal (Below.refl _ _) (Nat.le_refl _) _) _)) (u32s_length _) (one_u32s _) (by omega) (by omega) ?_; intro v' w1 hown hgr; obtain ⟨A', c', rfl, hcap, hrs⟩ := own_rs hown; have j1 : Below w0.heap.size w0 w1 := (by first | exact (bdw (bal (Below.refl _ _) (Nat.le_refl _) _)).trans (below_grown hgr (Nat.le_refl _) (by simp)) | exact (bal (Below.refl _ _) (Nat.le_refl _) _).trans (below_grown hgr (Nat.le_refl _) (by simp)) | exact (bdn (bal (Below.refl _ _) (Nat.le_refl _) _) _).trans (below_grown hgr (Nat.le_refl _) (by simp))); obtain ⟨x0, x1, _, _⟩ := (B0.out.below j1 B0.out.lt).two; obtain ⟨y0, y1, y2, y3⟩ := (B1.out.below j1 B1.out.lt).two))
  all_goals
    go_wp2_with fail
    have hB := B1.out.below j1 B1.out.lt
    have hrs2 := (hrs.var2 hB (.bool g) (.slice A' xs.length c')).mono s0
    refine bodyPost_ret (results_cell_row rfl _ _ (w.heap.size + 1) 28 _ (0, 0) _ rfl (blk_pair hB _ _) Tryz.underlying28 rfl (by kernel_rfl)) rfl ⟨A', c', rfl, by omega, ?_, bsc (bsc (bst K0.out j1 (Nat.le_refl _)) (by omega) _) (by omega) _⟩
    exact hrs2
end
section
open Go.RowKit

/-- What a call answers that tells three integers. -/
def ZBZ (w w' : World) (p q r : Int) (e : Ending) : Prop := ∃ ps qs rs A1 c1 A3 c3 A5 c5, e = .returned (.tuple #[.agg #[.bool (isNeg p), .slice A1 ps.length c1], .agg #[.bool (isNeg q), .slice A3 qs.length c3], .agg #[.bool (isNeg r), .slice A5 rs.length c5]]) ∧
  Num 4294967296 ps p.natAbs ∧ Num 4294967296 qs q.natAbs ∧ Num 4294967296 rs r.natAbs ∧ Res w' w.heap.size 61 A1 c1 (u32s ps) ∧ Res w' w.heap.size 61 A3 c3 (u32s qs) ∧ Res w' w.heap.size 61 A5 c5 (u32s rs) ∧ Below w.heap.size w w'
theorem zzz_ret {RR : Ending → World → Prop} {fn : Func} {a : Act} {w W : World} {p q r : Tmp} {g g2 g3 K J L : Nat} {P Q R : Int} (hR : ∀ e w', ZBZ w w' P Q R e → RR e w') (k : Below w.heap.size w W) (v : Vr w.heap.size W g P K) (v2 : Vr w.heap.size W g2 Q J) (v3 : Vr w.heap.size W g3 R L)
    (hres0 : fn.results = #[.cell p 28, .cell q 28, .cell r 28]) (hp : a.tmps.getD p undef = .pointer (some ⟨g, 0, none⟩)) (hp2 : a.tmps.getD q undef = .pointer (some ⟨g2, 0, none⟩)) (hp3 : a.tmps.getD r undef = .pointer (some ⟨g3, 0, none⟩)) (hd : a.defers = []) :
    bodyPost Tryz.prog fn RR .ret a W := by
  obtain ⟨A1, c1, ps, b1, n1, r1, l1⟩ := v
  obtain ⟨A3, c3, qs, b3, n3, r3, l3⟩ := v2
  obtain ⟨A5, c5, rs, b5, n5, r5, l5⟩ := v3
  exact bodyPost_ret (results_zzz hres0 hp hp2 hp3 b1 b3 b5) hd (hR _ _ ⟨ps, qs, rs, A1, c1, A3, c3, A5, c5, rfl, n1, n3, n5, r1, r3, r5, k⟩)
theorem blk_five (w : World) (x0 y0 x1 y1 x2 y2 x3 y3 x4 y4 : Value) {W : World} (h : W = (((((w.alloc (.cells #[x0, y0] 28)).alloc (.cells #[x1, y1] 28)).alloc (.cells #[x2, y2] 28)).alloc (.cells #[x3, y3] 28)).alloc (.cells #[x4, y4] 28))) :
    Blk W w.heap.size 28 [x0, y0] ∧ Blk W (w.heap.size + 1) 28 [x1, y1] ∧ Blk W (w.heap.size + 1 + 1) 28 [x2, y2] ∧ Blk W (w.heap.size + 1 + 1 + 1) 28 [x3, y3] ∧ Blk W (w.heap.size + 1 + 1 + 1 + 1) 28 [x4, y4] ∧ Below w.heap.size w W := by
  subst h
  obtain ⟨b0, b1, b2, b3⟩ := blk_four w x0 y0 x1 y1 x2 y2 x3 y3
  have k := bel_four w (.cells #[x0, y0] 28) (.cells #[x1, y1] 28) (.cells #[x2, y2] 28) (.cells #[x3, y3] 28)
  refine ⟨b0.heapAlloc _, b1.heapAlloc _, b2.heapAlloc _, b3.heapAlloc _, ?_, bal k (Nat.le_refl _) _⟩
  have h := Blk.new_ (w := (((w.alloc (.cells #[x0, y0] 28)).alloc (.cells #[x1, y1] 28)).alloc (.cells #[x2, y2] 28)).alloc (.cells #[x3, y3] 28)) (t := 28) (cs := #[x4, y4]) (vs := [x4, y4]) rfl
  simpa using h
/-- What three stores one behind the other leave. -/
theorem vr_three {B g h k K J L : Nat} {X : World} {z y v : Int} {x1 y1 x2 y2 x3 y3 : Value} {A A2 A3 : Option Addr} {c c2 c3 : Nat} {zs ys vs : List Nat} (hg : Blk X g 28 [x1, y1]) (hh : Blk X h 28 [x2, y2]) (hk : Blk X k 28 [x3, y3]) (n1 : g ≠ h) (n2 : g ≠ k) (n3 : h ≠ k)
    (nz : Num 4294967296 zs z.natAbs) (rz : Res X B 61 A c (u32s zs)) (lz : zs.length ≤ K) (ny : Num 4294967296 ys y.natAbs) (ry : Res X B 61 A2 c2 (u32s ys)) (ly : ys.length ≤ J) (nv : Num 4294967296 vs v.natAbs) (rv : Res X B 61 A3 c3 (u32s vs)) (lv : vs.length ≤ L) {W : World}
    (hW : W = (((((X.setCell ⟨g, 0, none⟩ (.bool (isNeg z))).setCell ⟨g, 1, none⟩ (.slice A zs.length c)).setCell ⟨h, 0, none⟩ (.bool (isNeg y))).setCell ⟨h, 1, none⟩ (.slice A2 ys.length c2)).setCell ⟨k, 0, none⟩ (.bool (isNeg v))).setCell ⟨k, 1, none⟩ (.slice A3 vs.length c3)) :
    Vr B W g z K ∧ Vr B W h y J ∧ Vr B W k v L := by
  subst hW
  have F := vr_two hg hh n1 nz rz lz ny ry ly
  have hk4 := far4 (u1 := .bool (isNeg z)) (u2 := .slice A zs.length c) (u3 := .bool (isNeg y)) (u4 := .slice A2 ys.length c2) (g := g) (h := h) hk (Ne.symm n2) (Ne.symm n3)
  exact ⟨F.1.other hk4 n2 _ _, F.2.other hk4 n3 _ _, Vr.put hk4 nv (res_var2 (res_var2 rv hg _ _) ((hh.far (p := ⟨g, 0, none⟩) (fun e => n1 e.symm) _).far (p := ⟨g, 1, none⟩) (fun e => n1 e.symm) _) _ _) lv⟩
theorem bsc6 {B g h k : Nat} {a X : World} {u1 u2 u3 u4 u5 u6 : Value} (hb : Below B a X) (h1 : B ≤ g) (h2 : B ≤ h) (h3 : B ≤ k) : Below B a ((((((X.setCell ⟨g, 0, none⟩ u1).setCell ⟨g, 1, none⟩ u2).setCell ⟨h, 0, none⟩ u3).setCell ⟨h, 1, none⟩ u4).setCell ⟨k, 0, none⟩ u5).setCell ⟨k, 1, none⟩ u6) := bsc (bsc (bsc4 hb h1 h2) h3 _) h3 _
section
variable {w : World} {g g2 : Bool} {A A2 : Option Addr} {c c2 N : Nat} {xs ys : List Nat} {z y : Int}
set_option maxHeartbeats 6400000 in
theorem bezout_nought (h : Zh w g A c xs z N) (h2 : Zh w g2 A2 c2 ys 0 N) (hN : N ≤ 1048576) (hN1 : 1 ≤ N) :
    Calls Tryz.prog 26 #[.agg #[.bool g, .slice A xs.length c], .agg #[.bool g2, .slice A2 ys.length c2]] w fun e w' => ZBZ w w' (z.natAbs : Int) z.sign 0 e := by
  have IZ : Hid (∀ W (_ : Below w.heap.size w W), Calls Tryz.prog 42 #[.agg #[.bool g2, .slice A2 ys.length c2]] W fun e w' => e = .returned (.bool true) ∧ Below W.heap.size W w') := fun W hW => (h2.next hW).isZero (by omega)
  have AB : Hid (∀ W (_ : Below w.heap.size w W), Calls Tryz.prog 27 #[.agg #[.bool g, .slice A xs.length c]] W fun e w' => ZOut W w' (z.natAbs : Int) e) := fun W hW => (h.next hW).abs (by omega)
  obtain ⟨sg, hsg⟩ : ∃ s, s = z.sign := ⟨_, rfl⟩
  obtain ⟨az, haz⟩ : ∃ s, s = (z.natAbs : Int) := ⟨_, rfl⟩
  have SG : Hid (∀ W (_ : Below w.heap.size w W), Calls Tryz.prog 28 #[.agg #[.bool g, .slice A xs.length c]] W fun e w' => e = .returned (.int .i64 sg) ∧ Below W.heap.size W w') := fun W hW => by rw [hsg]; exact (h.next hW).sign (by omega)
  have OF : Hid (∀ W, Calls Tryz.prog 51 #[.int .i64 sg] W fun e w' => ZOut W w' sg e) := fun W => by rw [hsg]; exact zof_any _ (sign_range z).1 (sign_range z).2 W
  have LA : Hid (az.natAbs < 4294967296 ^ N) := by show _ < _; rw [haz, Int.natAbs_natCast]; exact h.lt
  have LS : Hid (sg.natAbs < 4294967296 ^ 1) := by show _ < _; rcases sign_cases z with ⟨a, b⟩ | ⟨a, b⟩ | ⟨a, b⟩ <;> rw [hsg, b] <;> decide
  rw [← haz] at AB
  rw [← haz, ← hsg]
  clear h h2 hsg haz
  go_enter Tryz.func26, Tryz.ntmps26
  go_wp2_with fail
  obtain ⟨w0, hw0⟩ : ∃ w0, w0 = ((((w.alloc (.cells #[.bool g, .slice A xs.length c] 28)).alloc (.cells #[.bool g2, .slice A2 ys.length c2] 28)).alloc (.cells #[.bool false, .slice none 0 0] 28)).alloc (.cells #[.bool false, .slice none 0 0] 28)).alloc (.cells #[.bool false, .slice none 0 0] 28) := ⟨_, rfl⟩
  obtain ⟨b0, b1, b2, b3, b4, k0⟩ := blk_five w _ _ _ _ _ _ _ _ _ _ hw0
  rw [← hw0]
  clear hw0
  obtain ⟨q0, q1, _, _⟩ := b1.two
  go_wp2_with fail
  refine (IZ.out _ k0).mono ?_
  rintro e w1 ⟨rfl, hb1⟩
  have k1 := bst k0 hb1 (Nat.le_refl _)
  replace AB : Hid (∀ W (_ : Below w1.heap.size w1 W), Calls Tryz.prog 27 #[.agg #[.bool g, .slice A xs.length c]] W fun e w' => ZOut W w' az e) := fun W hW => AB.out W (bst k1 hW (Nat.le_refl _))
  replace SG : Hid (∀ W (_ : Below w1.heap.size w1 W), Calls Tryz.prog 28 #[.agg #[.bool g, .slice A xs.length c]] W fun e w' => e = .returned (.int .i64 sg) ∧ Below W.heap.size W w') := fun W hW => SG.out W (bst k1 hW (Nat.le_refl _))
  have B0 := Lib.hid (b0.below hb1 b0.lt)
  have B2 := Lib.hid (b2.below hb1 b2.lt)
  have B3 := Lib.hid (b3.below hb1 b3.lt)
  have B4 := Lib.hid (b4.below hb1 b4.lt)
  have K1 := Lib.hid k1
  have s1 := k1.size
  clear b0 b1 b2 b3 b4 q0 q1 k0 k1 hb1 IZ
  obtain ⟨p0, p1, _, _⟩ := B0.out.two
  obtain ⟨t0, t1, t2, t3⟩ := B2.out.two
  obtain ⟨u0, u1, u2, u3⟩ := B3.out.two
  obtain ⟨v0, v1, v2, v3⟩ := B4.out.two
  have n1 : w.heap.size + 1 + 1 ≠ w.heap.size + 1 + 1 + 1 := by omega
  have n2 : w.heap.size + 1 + 1 ≠ w.heap.size + 1 + 1 + 1 + 1 := by omega
  have n3 : w.heap.size + 1 + 1 + 1 ≠ w.heap.size + 1 + 1 + 1 + 1 := by omega
  have n4 : w.heap.size ≠ w.heap.size + 1 + 1 := by omega
  have n5 : w.heap.size ≠ w.heap.size + 1 + 1 + 1 := by omega
  have n6 : w.heap.size ≠ w.heap.size + 1 + 1 + 1 + 1 := by omega
  have n7 := Ne.symm n4
  have n8 := Ne.symm n5
  have n9 := Ne.symm n6
  have m1 := Ne.symm n1
  have m2 := Ne.symm n2
  have m3 := Ne.symm n3
  go_upto_region 2 with (fail)
  go_region_held3 (fun W => W.cell? ⟨w.heap.size, 0, none⟩ = some (.bool g) ∧ W.cell? ⟨w.heap.size, 1, none⟩ = some (.slice A xs.length c)) (go_keep) (first
    | (go_at_call 27; (with_reducible refine (AB.out _ (by repeat (first | exact Below.refl _ _ | exact ja | exact js | exact jo | apply bdw | (refine bdn ?_ _) | (refine bal ?_ (Nat.le_refl _) _)))).mono ?_); rintro e wa ⟨za, Aa, ca, rfl, hza, hra, hba⟩; have ja : Below w1.heap.size w1 wa := bst (by repeat (first | exact Below.refl _ _ | exact ja | exact js | exact jo | apply bdw | (refine bdn ?_ _) | (refine bal ?_ (Nat.le_refl _) _))) hba (Nat.le_refl _); obtain ⟨x0a, y0a, _, _⟩ := (B0.out.below ja B0.out.lt).two; obtain ⟨x1a, y1a, u1a, v1a⟩ := (B2.out.below ja B2.out.lt).two; obtain ⟨x2a, y2a, u2a, v2a⟩ := (B3.out.below ja B3.out.lt).two; obtain ⟨x3a, y3a, u3a, v3a⟩ := (B4.out.below ja B4.out.lt).two)
    | (go_at_call 28; (with_reducible refine (SG.out _ (by repeat (first | exact Below.refl _ _ | exact ja | exact js | exact jo | apply bdw | (refine bdn ?_ _) | (refine bal ?_ (Nat.le_refl _) _)))).mono ?_); rintro e ws ⟨rfl, hbs⟩; have js : Below w1.heap.size w1 ws := bst (by repeat (first | exact Below.refl _ _ | exact ja | exact js | exact jo | apply bdw | (refine bdn ?_ _) | (refine bal ?_ (Nat.le_refl _) _))) hbs (Nat.le_refl _); obtain ⟨x0s, y0s, _, _⟩ := (B0.out.below js B0.out.lt).two; obtain ⟨x1s, y1s, u1s, v1s⟩ := (B2.out.below js B2.out.lt).two; obtain ⟨x2s, y2s, u2s, v2s⟩ := (B3.out.below js B3.out.lt).two; obtain ⟨x3s, y3s, u3s, v3s⟩ := (B4.out.below js B4.out.lt).two)
    | (go_at_call 51; (with_reducible refine (OF.out _).mono ?_); rintro e wo ⟨zo, Ao, co, rfl, hzo, hro, hbo⟩; have jo : Below w1.heap.size w1 wo := bst (by repeat (first | exact Below.refl _ _ | exact ja | exact js | exact jo | apply bdw | (refine bdn ?_ _) | (refine bal ?_ (Nat.le_refl _) _))) hbo (Nat.le_refl _); obtain ⟨x0o, y0o, _, _⟩ := (B0.out.below jo B0.out.lt).two; obtain ⟨x1o, y1o, u1o, v1o⟩ := (B2.out.below jo B2.out.lt).two; obtain ⟨x2o, y2o, u2o, v2o⟩ := (B3.out.below jo B3.out.lt).two; obtain ⟨x3o, y3o, u3o, v3o⟩ := (B4.out.below jo B4.out.lt).two))
  all_goals
    go_wp2_with fail
    have ss := Nat.le_trans s1 js.size
    exact zzz_ret (fun e w' h => h) (bsc6 (bst K1.out jo (Nat.le_refl _)) (by omega) (by omega) (by omega)) (vr_three (B2.out.below jo B2.out.lt) (B3.out.below jo B3.out.lt) (B4.out.below jo B4.out.lt) n1 n2 n3 hza (((hra.mono s1).below hbs (Nat.le_refl _)).below hbo (Nat.le_refl _)) (num32_len hza (Nat.le_refl _) LA.out) hzo (hro.mono ss) (num32_len hzo (Nat.le_refl _) LS.out) (vs := []) (v := 0) (Num.zero_ _) Res.none_ (Nat.le_refl _) rfl).1 (vr_three (B2.out.below jo B2.out.lt) (B3.out.below jo B3.out.lt) (B4.out.below jo B4.out.lt) n1 n2 n3 hza (((hra.mono s1).below hbs (Nat.le_refl _)).below hbo (Nat.le_refl _)) (num32_len hza (Nat.le_refl _) LA.out) hzo (hro.mono ss) (num32_len hzo (Nat.le_refl _) LS.out) (vs := []) (v := 0) (Num.zero_ _) Res.none_ (Nat.le_refl _) rfl).2.1 (vr_three (B2.out.below jo B2.out.lt) (B3.out.below jo B3.out.lt) (B4.out.below jo B4.out.lt) n1 n2 n3 hza (((hra.mono s1).below hbs (Nat.le_refl _)).below hbo (Nat.le_refl _)) (num32_len hza (Nat.le_refl _) LA.out) hzo (hro.mono ss) (num32_len hzo (Nat.le_refl _) LS.out) (vs := []) (v := 0) (Num.zero_ _) Res.none_ (Nat.le_refl _) rfl).2.2 rfl rfl rfl rfl rfl
end
end
end Go.Proofs.YtanlejlmckdeiaaGreatDoor
