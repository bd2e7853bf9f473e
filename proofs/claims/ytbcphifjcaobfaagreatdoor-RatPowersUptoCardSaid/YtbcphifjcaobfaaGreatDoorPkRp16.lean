/- An integer that is answered in normal form, as it is held; w. What is spared while variables turn; integers that lie apart. The contracts of zint's sums, products and forms. What a function answers that holds its results in cells and . -/
import Derived.Test.YtbcphifjcaobfaaGreatDoorPkRp15
import Derived.Deep.RegionHeld3
namespace Go.Proofs.YtbcphifjcaobfaaGreatDoor
section
open Go.RowKit
structure Zn (w : World) (A : Option Addr) (c : Nat) (zs : List Nat) (z : Int) (K : Nat) : Prop where
 num : Num 4294967296 zs z.natAbs
 rd : Rd w w.heap.size A (u32s zs)
 cap : zs.length ≤ c
 len : zs.length ≤ K
def ZnOut (w w' : World) (z : Int) (K : Nat) (e : Ending) : Prop := ∃ zs A' c', e = .returned (.agg #[.bool (isNeg z), .slice A' zs.length c']) ∧ Zn w' A' c' zs z K ∧ Below w.heap.size w w'
section
variable {w w' : World} {A A2 : Option Addr} {c c2 K J : Nat} {zs ys : List Nat} {z y : Int} {g g2 : Bool} {e : Ending}
theorem Zn.next (h : Zn w A c zs z K) (hb : Below w.heap.size w w') : Zn w' A c zs z K := ⟨h.num, (h.rd.below hb).mono hb.size, h.cap, h.len⟩
theorem Zn.zh (h : Zn w A c zs z K) : Zh w (isNeg z) A c zs z K := ⟨⟨h.num.1, h.num.2.2, h.rd, h.cap, h.len⟩, ival_abs z⟩
theorem Zn.hv (h : Zn w A c zs z K) : Hv w A c zs z.natAbs K := h.zh.hv
theorem Zn.up (h : Zn w A c zs z K) (hJ : K ≤ J) : Zn w A c zs z J := ⟨h.num, h.rd, h.cap, Nat.le_trans h.len hJ⟩
theorem Zn.to (h : Zn w A c zs z K) (e : z = y) : Zn w A c zs y K := e ▸ h
theorem Zn.lt (h : Zn w A c zs z K) : z.natAbs < 4294967296 ^ K := h.hv.lt
theorem Zh.lt (h : Zh w g A c zs z K) : z.natAbs < 4294967296 ^ K := h.hv.lt
theorem Zn.shrink {B : Nat} (h : Num 4294967296 zs z.natAbs) (hr : Res w B 50 A c (u32s zs)) (hK : z.natAbs < 4294967296 ^ K) : Zn w A c zs z K :=
 ⟨h, hr.rd, by have := hr.1; rwa [u32s_length] at this, num32_len h nl9 hK⟩
theorem ZOut.n (h : ZOut w w' z e) (hK : z.natAbs < 4294967296 ^ K) : ZnOut w w' z K e := by
 obtain ⟨zs, A, c, rfl, hz, hr, hb⟩ := h
 exact ⟨zs, A, c, rfl, Zn.shrink hz hr hK, hb⟩
theorem ZnOut.to (h : ZnOut w w' z K e) (e9 : z = y) : ZnOut w w' y K e := e9 ▸ h
theorem ZOut.to (h : ZOut w w' z e) (e9 : z = y) : ZOut w w' y e := e9 ▸ h
theorem zdiff_lt {b i j : Nat} (hb : 2 ≤ b) (hn : z.natAbs < b ^ i) (hk : y.natAbs < b ^ j) : (z - y).natAbs < b ^ (max i j + 1) := by
 have := sum_lt_pow9 hb hn hk
 omega
theorem zprod_lt {b i j : Nat} (hn : z.natAbs < b ^ i) (hk : y.natAbs < b ^ j) : (z * y).natAbs < b ^ (i + j) := by
 rw [Int.natAbs_mul]; exact prod_lt_pow9 hn hk
end
end
section
open Go.RowKit
theorem bal {B : Nat} {a w : World} (h : Below B a w) (hB : B ≤ a.heap.size) (o : Obj) : Below B a (w.alloc o) := h.alloc (Nat.le_trans hB h.size) o
theorem bdn {B : Nat} {a w : World} (h : Below B a w) (n : Nat) : Below B a (w.drewN n) := ⟨h.os, h.tape, h.output, h.size, h.block⟩
theorem bdw {B : Nat} {a w : World} (h : Below B a w) : Below B a w.drew := ⟨h.os, h.tape, h.output, h.size, h.block⟩
theorem bst {B : Nat} {a b c : World} (h : Below B a b) (k : Below b.heap.size b c) (hB : B ≤ a.heap.size) : Below B a c := h.trans (k.mono (Nat.le_trans hB h.size))
theorem bsc {B g i : Nat} {a w : World} (h : Below B a w) (hg : B ≤ g) (u : Value) : Below B a (w.setCell ⟨g, i, none⟩ u) := h.setCell (p := ⟨g, i, none⟩) hg u
theorem Blk.c0 {w : World} {g : Nat} {t : TypeId} {x y : Value} (h : Blk w g t [x, y]) : w.cell? ⟨g, 0, none⟩ = some x := h.cell 0
theorem Blk.c1 {w : World} {g : Nat} {t : TypeId} {x y : Value} (h : Blk w g t [x, y]) : w.cell? ⟨g, 1, none⟩ = some y := h.cell 1
theorem Blk.two {w : World} {g : Nat} {t : TypeId} {x y : Value} (h : Blk w g t [x, y]) : w.cell? ⟨g, 0, none⟩ = some x ∧ w.cell? ⟨g, 1, none⟩ = some y ∧ w.frozen? ⟨g, 0, none⟩ = false ∧ w.frozen? ⟨g, 1, none⟩ = false := ⟨h.c0, h.c1, h.frozen 0, h.frozen 1⟩
structure Sp (vs : List Nat) (w w' : World) : Prop where
 size : w.heap.size ≤ w'.heap.size
 block : ∀ k, k < w.heap.size → k ∉ vs → w'.heap[k]? = w.heap[k]?
section
variable {vs : List Nat} {w w' w2 : World} {g i : Nat}
theorem Sp.refl (vs : List Nat) (w : World) : Sp vs w w := ⟨Nat.le_refl _, fun _ _ _ => rfl⟩
theorem Sp.below (h : Sp vs w w') (hb : Below w'.heap.size w' w2) : Sp vs w w2 := ⟨Nat.le_trans h.size hb.size, fun k hk hv => (hb.block k (by have := h.size; omega)).trans (h.block k hk hv)⟩
theorem Sp.trans (h : Sp vs w w') (k : Sp vs w' w2) : Sp vs w w2 := ⟨Nat.le_trans h.size k.size, fun i hi hv => (k.block i (by have := h.size; omega) hv).trans (h.block i hi hv)⟩
theorem Sp.set (h : Sp vs w w') (hg : g ∈ vs) (u : Value) : Sp vs w (w'.setCell ⟨g, i, none⟩ u) :=
 ⟨by simpa [World.setCell] using h.size, fun k hk hv => (Below.heap_setCell _ _ _ _ (by rintro rfl; exact hv hg)).trans (h.block k hk hv)⟩
theorem Sp.al (h : Sp vs w w') (o : Obj) : Sp vs w (w'.alloc o) := h.below (br9.alloc nl9 o)
theorem Sp.of (hb : Below w.heap.size w w') : Sp vs w w' := (Sp.refl vs w).below hb
end
structure Zi (B : Nat) (vs : List Nat) (w : World) (A : Option Addr) (c : Nat) (zs : List Nat) (z : Int) (K : Nat) : Prop where
 num : Num 4294967296 zs z.natAbs
 res : Res w B 50 A c (u32s zs)
 len : zs.length ≤ K
 av : zs ≠ [] → ∀ a, A = some a → a.block ∉ vs
section
variable {B B2 : Nat} {vs : List Nat} {w w' : World} {A : Option Addr} {c K J g : Nat} {zs : List Nat} {z y : Int}
theorem u32s_nil {xs : List Nat} (h : u32s xs ≠ []) : xs ≠ [] := fun e => h (by rw [e]; rfl)
theorem Zi.sp (h : Zi B vs w A c zs z K) (s : Sp vs w w') : Zi B vs w' A c zs z K :=
 ⟨h.num, ⟨h.res.1, h.res.2.1, fun hn => by
  obtain ⟨b, rest, rfl, hb, hk, hl⟩ := h.res.2.2 hn
  exact ⟨b, rest, rfl, hb, (s.block b hk.lt (h.av (u32s_nil hn) _ rfl)).trans hk, hl⟩⟩, h.len, h.av⟩
theorem Zi.next (h : Zi B vs w A c zs z K) (hb : Below w.heap.size w w') : Zi B vs w' A c zs z K := h.sp (Sp.of hb)
theorem Zi.cap (h : Zi B vs w A c zs z K) : zs.length ≤ c := by have := h.res.1; rwa [u32s_length] at this
theorem Zi.zn (h : Zi B vs w A c zs z K) : Zn w A c zs z K := ⟨h.num, h.res.rd, h.cap, h.len⟩
theorem Zi.zh (h : Zi B vs w A c zs z K) : Zh w (isNeg z) A c zs z K := h.zn.zh
theorem Zi.of (h : Num 4294967296 zs z.natAbs) (hr : Res w B2 50 A c (u32s zs)) (hK : z.natAbs < 4294967296 ^ K) (hB : B ≤ B2) (hvs : ∀ v ∈ vs, v < B2) : Zi B vs w A c zs z K :=
 ⟨h, hr.mono hB, num32_len h nl9 hK, fun hn a e hm => by
  obtain ⟨b, rest, rfl, hb, _, _⟩ := hr.2.2 (by intro e2; apply hn; have := u32s_length zs; rw [e2] at this; exact List.eq_nil_of_length_eq_zero this.symm)
  cases e
  have h9 : b < B2 := hvs _ hm
  omega⟩
theorem Zi.to (h : Zi B vs w A c zs z K) (e : z = y) : Zi B vs w A c zs y K := e ▸ h
theorem Zi.up (h : Zi B vs w A c zs z K) (hK : z.natAbs < 4294967296 ^ J) : Zi B vs w A c zs z J := ⟨h.num, h.res, num32_len h.num nl9 hK, h.av⟩
theorem Zi.lt (h : Zi B vs w A c zs z K) : z.natAbs < 4294967296 ^ K := h.zn.lt
end
def Vz (B : Nat) (vs : List Nat) (w : World) (g : Nat) (z : Int) (K : Nat) : Prop :=
 ∃ A c zs, Blk w g 25 [.bool (isNeg z), .slice A zs.length c] ∧ Zi B vs w A c zs z K
section
variable {B B2 : Nat} {vs : List Nat} {w w' w2 : World} {A : Option Addr} {c K J g h : Nat} {zs : List Nat} {z y : Int}
theorem Vz.next (v : Vz B vs w g z K) (hb : Below w.heap.size w w') : Vz B vs w' g z K := by
 obtain ⟨A, c, zs, hk, hz⟩ := v
 exact ⟨A, c, zs, hk.below hb hk.lt, hz.next hb⟩
theorem Vz.lt (v : Vz B vs w g z K) : g < w.heap.size := by
 obtain ⟨A, c, zs, hk, hz⟩ := v
 exact hk.lt
theorem Vz.other (v : Vz B vs w g z K) (hh : h ∈ vs) (hne : g ≠ h) (x y : Value) : Vz B vs ((w.setCell ⟨h, 0, none⟩ x).setCell ⟨h, 1, none⟩ y) g z K := by
 obtain ⟨A, c, zs, hk, hz⟩ := v
 exact ⟨A, c, zs, (hk.far (p := ⟨h, 0, none⟩) hne _).far (p := ⟨h, 1, none⟩) hne _, hz.sp (((Sp.refl vs w).set hh _).set hh _)⟩
theorem Vz.own {x0 y0 : Value} (hk : Blk w g 25 [x0, y0]) (hh : g ∈ vs) (hz : Zi B vs w A c zs z K) : Vz B vs ((w.setCell ⟨g, 0, none⟩ (.bool (isNeg z))).setCell ⟨g, 1, none⟩ (.slice A zs.length c)) g z K :=
 ⟨A, c, zs, blk_pair hk _ _, hz.sp (((Sp.refl vs w).set hh _).set hh _)⟩
end
theorem zretF {fn : Func} {a : Act} {w W : World} {p : Tmp} {r B : Nat} {b : Bool} {x y : Value} {z : Int} {zs : List Nat} {A : Option Addr} {c : Nat} (hbel : Below w.heap.size w W) (hB : Blk W r 25 [x, y]) (hr : w.heap.size ≤ r)
  (hz : Num 4294967296 zs z.natAbs) (hres : Res W B 50 A c (u32s zs)) (hwB : w.heap.size ≤ B) (hav : zs ≠ [] → ∀ a, A = some a → a.block ≠ r) (hb : b = isNeg z) (hres0 : fn.results = #[.cell p 25]) (hp : a.tmps.getD p undef = .pointer (some ⟨r, 0, none⟩)) (hd : a.defers = []) :
  bodyPost Tryz.prog fn (fun e w' => ZOut w w' z e) .ret a ((W.setCell ⟨r, 0, none⟩ (.bool b)).setCell ⟨r, 1, none⟩ (.slice A zs.length c)) := by
 subst hb
 have h1 : Zi w.heap.size [r] W A c zs z zs.length := ⟨hz, hres.mono hwB, Nat.le_refl _, fun hn a e hm => hav hn a e (by simpa using hm)⟩
 have hm : r ∈ [r] := List.mem_singleton.2 rfl
 have h2 := h1.sp (((Sp.refl [r] W).set (g := r) (i := 0) hm (.bool (isNeg z))).set (g := r) (i := 1) hm (.slice A zs.length c))
 exact bodyPost_ret (results_cell_row hres0 _ _ r 25 _ (0, 0) _ hp (blk_pair hB _ _) Tryz.underlying25 rfl (by kernel_rfl)) hd
  ⟨zs, A, c, rfl, hz, h2.res, bsc (bsc hbel hr _) hr _⟩
end
section
open Go.RowKit
section
variable {w : World} {g g2 : Bool} {A A2 : Option Addr} {c c2 K J : Nat} {xs ys : List Nat} {z y : Int}
set_option maxHeartbeats 1600000 in
theorem Zh.add (h : Zh w g A c xs z K) (h2 : Zh w g2 A2 c2 ys y J) (hK : K ≤ 67108864) (hJ : J ≤ 67108864) :
  Calls Tryz.prog 84 #[.agg #[.bool g, .slice A xs.length c], .agg #[.bool g2, .slice A2 ys.length c2]] w fun e w' => ZOut w w' (z + y) e := by
 have e9 : Hid (∀ W : World, Below w.heap.size w W → Calls Tryz.prog 118 #[.bool g, .slice A xs.length c, .bool g2, .slice A2 ys.length c2] W fun e w' => ZOut W w' (z + y) e) := fun W hW => by
  have := zadded_any g g2 (h.hv.next hW) (h2.hv.next hW) hK hJ
  rwa [h.sg, h2.sg] at this
 clear h h2
 go_enter Tryz.func84, Tryz.ntmps84
 go_wp2_with fail
 refine (e9.out _ (bel_three _ _ _ _)).mono ?_
 rintro e w1 ⟨zs, A', c', rfl, hz, hr, hb⟩
 obtain ⟨hc, hf⟩ := bcell hb
 have hB := (blk_res2 w (.cells #[.bool g, .slice A xs.length c] 25) (.cells #[.bool g2, .slice A2 ys.length c2] 25) (.bool false) (.slice none 0 0)).below hb (by simp)
 go_wp2
 exact zret ((bel_three _ _ _ _).trans (hb.mono (bel_three _ _ _ _).size)) hB (by omega) hz hr (by simp) rfl rfl rfl
set_option maxHeartbeats 1600000 in
theorem Zh.mul (h : Zh w g A c xs z K) (h2 : Zh w g2 A2 c2 ys y J) (hK : K ≤ 67108864) (hJ : J ≤ 67108864) :
  Calls Tryz.prog 66 #[.agg #[.bool g, .slice A xs.length c], .agg #[.bool g2, .slice A2 ys.length c2]] w fun e w' => ZOut w w' (z * y) e := by
 have e9 : Hid (∀ W : World, Below w.heap.size w W → Calls Tryz.prog 106 #[.slice A xs.length c, .slice A2 ys.length c2] W fun e w' => NOut W w' (z.natAbs * y.natAbs) e) := fun W hW => Hv.mulN (h.hv.next hW) (h2.hv.next hW) hK hJ
 have Hv9 : Hid ((z * y) = ivalN (!(g == g2)) (z.natAbs * y.natAbs)) := by show _ = _; rw [show (!(g == g2)) = (g != g2) from rfl, ← mul_ival, h.sg, h2.sg]
 have hl3 : w.heap.size < w.heap.size + 1 + 1 + 1 := by omega
 have hn1 : w.heap.size + 1 + 1 ≠ w.heap.size := by omega
 have hn2 : w.heap.size ≠ w.heap.size + 1 + 1 := by omega
 clear h h2
 go_enter Tryz.func66, Tryz.ntmps66
 go_wp2_with fail
 go_region_held3 (fun W => W.cell? ⟨w.heap.size, 0, none⟩ = some (.bool g) ∧ W.cell? ⟨w.heap.size, 1, none⟩ = some (.slice A xs.length c) ∧ W.cell? ⟨w.heap.size + 1, 0, none⟩ = some (.bool g2) ∧ W.cell? ⟨w.heap.size + 1, 1, none⟩ = some (.slice A2 ys.length c2)) (go_keep) (first
  | (go_at_call 106; (with_reducible refine (e9.out _ (by first | exact bel_three _ _ _ _ | exact (bel_three _ _ _ _).trans (((Dr.refl _).step _).below _))).mono ?_); rintro e w1 ⟨zs, A', c', rfl, hz, hr, hb⟩; obtain ⟨hc, hf⟩ := bcell hb; have q3 : w.heap.size + 1 + 1 < w1.heap.size := Nat.lt_of_lt_of_le (Nat.lt_succ_self _) (show w.heap.size + 1 + 1 + 1 ≤ w1.heap.size by simpa using hb.size); have q2 : w.heap.size + 1 < w1.heap.size := Nat.lt_of_succ_lt q3; have q1 : w.heap.size < w1.heap.size := Nat.lt_of_succ_lt q2)
  | (go_at_call 105; (with_reducible refine (made_num _ _ hz Hv9.out _ (res_len hr)).mono ?_); rintro e w2 ⟨rfl, hb2⟩; obtain ⟨hc2, hf2⟩ := bcell hb2))
 all_goals
  have k1 : Below w.heap.size w w1 := bst (by first | exact bel_three _ _ _ _ | exact (bel_three _ _ _ _).trans (((Dr.refl _).step _).below _)) hb nl9
  have hB : Blk w1 (w.heap.size + 2) 25 [.bool false, .slice none 0 0] := by first | exact (blk_res2 w _ _ _ _).below hb (by simp) | exact ((blk_res2 w _ _ _ _).drewN _).below hb (by simp) | exact (blk_res2 w _ _ _ _).drew.below hb (by simp)
  go_wp2_with fail
  exact zret (z := z * y) (bst k1 hb2 nl9) (hB.below hb2 (by omega)) (by omega) (num_eq hz (by rw [Hv9.out, abs_ival])) (hr.below hb2 nl9) (by simp; try omega) rfl rfl rfl
set_option maxHeartbeats 1600000 in
theorem Zh.norm (h : Zh w g A c xs z K) (hK : K ≤ 67108864) :
  Calls Tryz.prog 102 #[.agg #[.bool g, .slice A xs.length c]] w fun e w' => ZOut w w' (z) e := by
 have e9 : Hid (∀ W : World, Below w.heap.size w W → Calls Tryz.prog 117 #[.slice A xs.length c] W fun e w' => NOut W w' z.natAbs e) := fun W hW => Hv.normN (h.hv.next hW) hK
 have Hv9 : Hid ((z) = ivalN (g) z.natAbs) := by show _ = _; exact h.sg.symm
 have hl3 : w.heap.size < w.heap.size + 1 + 1 := by omega
 have hn1 : w.heap.size + 1 ≠ w.heap.size := by omega
 have hn2 : w.heap.size ≠ w.heap.size + 1 := by omega
 clear h
 go_enter Tryz.func102, Tryz.ntmps102
 go_wp2_with fail
 go_region_held3 (fun W => W.cell? ⟨w.heap.size, 0, none⟩ = some (.bool g) ∧ W.cell? ⟨w.heap.size, 1, none⟩ = some (.slice A xs.length c)) (go_keep) (first
  | (go_at_call 117; (with_reducible refine (e9.out _ (by first | exact bel_two _ _ _ | exact (bel_two _ _ _).trans (((Dr.refl _).step _).below _))).mono ?_); rintro e w1 ⟨zs, A', c', rfl, hz, hr, hb⟩; obtain ⟨hc, hf⟩ := bcell hb; have q2 : w.heap.size + 1 < w1.heap.size := Nat.lt_of_lt_of_le (Nat.lt_succ_self _) (show w.heap.size + 1 + 1 ≤ w1.heap.size by simpa using hb.size); have q1 : w.heap.size < w1.heap.size := Nat.lt_of_succ_lt q2)
  | (go_at_call 105; (with_reducible refine (made_num _ _ hz Hv9.out _ (res_len hr)).mono ?_); rintro e w2 ⟨rfl, hb2⟩; obtain ⟨hc2, hf2⟩ := bcell hb2))
 all_goals
  have k1 : Below w.heap.size w w1 := bst (by first | exact bel_two _ _ _ | exact (bel_two _ _ _).trans (((Dr.refl _).step _).below _)) hb nl9
  have hB : Blk w1 (w.heap.size + 1) 25 [.bool false, .slice none 0 0] := by first | exact (blk_res1 w _ _ _).below hb (by simp) | exact ((blk_res1 w _ _ _).drewN _).below hb (by simp) | exact (blk_res1 w _ _ _).drew.below hb (by simp)
  go_wp2_with fail
  exact zret (z := z) (bst k1 hb2 nl9) (hB.below hb2 (by omega)) (by omega) (num_eq hz (by rw [Hv9.out, abs_ival])) (hr.below hb2 nl9) (by simp; try omega) rfl rfl rfl
set_option maxHeartbeats 1600000 in
theorem Zh.neg (h : Zh w g A c xs z K) (hK : K ≤ 67108864) :
  Calls Tryz.prog 81 #[.agg #[.bool g, .slice A xs.length c]] w fun e w' => ZOut w w' (-z) e := by
 have e9 : Hid (∀ W : World, Below w.heap.size w W → Calls Tryz.prog 117 #[.slice A xs.length c] W fun e w' => NOut W w' z.natAbs e) := fun W hW => Hv.normN (h.hv.next hW) hK
 have Hv9 : Hid ((-z) = ivalN (!g) z.natAbs) := by show _ = _; rw [← neg_ival, h.sg]
 have hl3 : w.heap.size < w.heap.size + 1 + 1 := by omega
 have hn1 : w.heap.size + 1 ≠ w.heap.size := by omega
 have hn2 : w.heap.size ≠ w.heap.size + 1 := by omega
 clear h
 go_enter Tryz.func81, Tryz.ntmps81
 go_wp2_with fail
 go_region_held3 (fun W => W.cell? ⟨w.heap.size, 0, none⟩ = some (.bool g) ∧ W.cell? ⟨w.heap.size, 1, none⟩ = some (.slice A xs.length c)) (go_keep) (first
  | (go_at_call 117; (with_reducible refine (e9.out _ (by first | exact bel_two _ _ _ | exact (bel_two _ _ _).trans (((Dr.refl _).step _).below _))).mono ?_); rintro e w1 ⟨zs, A', c', rfl, hz, hr, hb⟩; obtain ⟨hc, hf⟩ := bcell hb; have q2 : w.heap.size + 1 < w1.heap.size := Nat.lt_of_lt_of_le (Nat.lt_succ_self _) (show w.heap.size + 1 + 1 ≤ w1.heap.size by simpa using hb.size); have q1 : w.heap.size < w1.heap.size := Nat.lt_of_succ_lt q2)
  | (go_at_call 105; (with_reducible refine (made_num _ _ hz Hv9.out _ (res_len hr)).mono ?_); rintro e w2 ⟨rfl, hb2⟩; obtain ⟨hc2, hf2⟩ := bcell hb2))
 all_goals
  have k1 : Below w.heap.size w w1 := bst (by first | exact bel_two _ _ _ | exact (bel_two _ _ _).trans (((Dr.refl _).step _).below _)) hb nl9
  have hB : Blk w1 (w.heap.size + 1) 25 [.bool false, .slice none 0 0] := by first | exact (blk_res1 w _ _ _).below hb (by simp) | exact ((blk_res1 w _ _ _).drewN _).below hb (by simp) | exact (blk_res1 w _ _ _).drew.below hb (by simp)
  go_wp2_with fail
  exact zret (z := -z) (bst k1 hb2 nl9) (hB.below hb2 (by omega)) (by omega) (num_eq hz (by rw [Hv9.out, abs_ival])) (hr.below hb2 nl9) (by simp; try omega) rfl rfl rfl
end
theorem bits_zero (n : Nat) : (((bitsOf n : Nat) : Int) == 0) = decide (n = 0) := by
 rcases Nat.eq_zero_or_pos n with h | h
 ·subst h; rfl
 ·have h1 : bitsOf n ≠ 0 := by unfold bitsOf; rw [if_neg (by omega)]; omega
  have h2 : ¬ n = 0 := by omega
  rw [decide_eq_false h2]
  simpa using h1
section
variable {w w' : World} {g g2 : Bool} {A A2 : Option Addr} {c c2 K J : Nat} {xs ys : List Nat} {z y : Int}
set_option maxHeartbeats 800000 in
theorem Zh.isZero (h : Zh w g A c xs z K) (hK : K ≤ 67108864) : Calls Tryz.prog 103 #[.agg #[.bool g, .slice A xs.length c]] w fun e w' => e = .returned (.bool (decide (z = 0))) ∧ Below w.heap.size w w' := by
 have L1 := hi9 (fun W (hW : Below w.heap.size w W) => (h.hv.next hW).nlen hK)
 have e1 := bits_zero z.natAbs
 have e2 : decide (z.natAbs = 0) = decide (z = 0) := decide_eq_decide.2 (by omega)
 rw [e2] at e1
 obtain ⟨v, hv⟩ : ∃ v, v = decide (z = 0) := ⟨_, rfl⟩
 obtain ⟨b, hb⟩ : ∃ b, b = bitsOf z.natAbs := ⟨_, rfl⟩
 rw [← hb] at L1 e1
 rw [← hv] at e1 ⊢
 clear h hv hb e2
 go_enter Tryz.func103, Tryz.ntmps103
 go_wp2_with fail
 refine (L1.out _ (bel_one _ _)).mono ?_
 rintro e w1 ⟨rfl, rfl⟩
 go_wp2_with (simp only [])
 go_ret
 exact ⟨rfl, bel_one _ _⟩
end
end
section
open Go.RowKit
section
variable {w : World} {p q r u g g2 g3 : Nat} {x y x2 y2 x3 y3 : Value} {fn : Func} {tmps : Array Value}
theorem lvz (h : Blk w g 25 [x, y]) : (loadVar 25 ⟨g, 0, none⟩).run Tryz.prog w = .ok (.agg #[x, y]) w :=
 run_loadVar_row w g 25 25 #[x, y] (0, 0) _ h Tryz.underlying25 rfl (by kernel_rfl)
theorem results_zs (h : fn.results = #[.cell p 25, .tmp u]) (hp : tmps.getD p undef = .pointer (some ⟨g, 0, none⟩)) (hb : Blk w g 25 [x, y]) :
  (results fn tmps).run Tryz.prog w = .ok (.tuple #[.agg #[x, y], tmps.getD u undef]) w := by
 have hp' : tmps[p]?.getD undef = .pointer (some ⟨g, 0, none⟩) := by simpa using hp
 simp [results, h, hp', asAddr, lvz hb]
theorem results_sz (h : fn.results = #[.tmp u, .cell p 25]) (hp : tmps.getD p undef = .pointer (some ⟨g, 0, none⟩)) (hb : Blk w g 25 [x, y]) :
  (results fn tmps).run Tryz.prog w = .ok (.tuple #[tmps.getD u undef, .agg #[x, y]]) w := by
 have hp' : tmps[p]?.getD undef = .pointer (some ⟨g, 0, none⟩) := by simpa using hp
 simp [results, h, hp', asAddr, lvz hb]
theorem results_zz (h : fn.results = #[.cell p 25, .cell q 25]) (hp : tmps.getD p undef = .pointer (some ⟨g, 0, none⟩)) (hq : tmps.getD q undef = .pointer (some ⟨g2, 0, none⟩)) (hb : Blk w g 25 [x, y]) (hb2 : Blk w g2 25 [x2, y2]) :
  (results fn tmps).run Tryz.prog w = .ok (.tuple #[.agg #[x, y], .agg #[x2, y2]]) w := by
 have hp' : tmps[p]?.getD undef = .pointer (some ⟨g, 0, none⟩) := by simpa using hp
 have hq' : tmps[q]?.getD undef = .pointer (some ⟨g2, 0, none⟩) := by simpa using hq
 simp [results, h, hp', hq', asAddr, lvz hb, lvz hb2]
theorem results_zzs (h : fn.results = #[.cell p 25, .cell q 25, .tmp u]) (hp : tmps.getD p undef = .pointer (some ⟨g, 0, none⟩)) (hq : tmps.getD q undef = .pointer (some ⟨g2, 0, none⟩)) (hb : Blk w g 25 [x, y]) (hb2 : Blk w g2 25 [x2, y2]) :
  (results fn tmps).run Tryz.prog w = .ok (.tuple #[.agg #[x, y], .agg #[x2, y2], tmps.getD u undef]) w := by
 have hp' : tmps[p]?.getD undef = .pointer (some ⟨g, 0, none⟩) := by simpa using hp
 have hq' : tmps[q]?.getD undef = .pointer (some ⟨g2, 0, none⟩) := by simpa using hq
 simp [results, h, hp', hq', asAddr, lvz hb, lvz hb2]
end
end
end Go.Proofs.YtbcphifjcaobfaaGreatDoor
