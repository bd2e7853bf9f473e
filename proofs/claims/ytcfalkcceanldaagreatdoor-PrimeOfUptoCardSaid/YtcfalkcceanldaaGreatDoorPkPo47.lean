/- The contracts of prime.OfRat and of the reference's OfRat. Conditions: the sizes; the library's table and the bases as they are laid. -/
import Derived.Test.YtcfalkcceanldaaGreatDoorPkPo46
namespace Go.Proofs.YtcfalkcceanldaaGreatDoor
open Go.RowKit

/-- A fraction's parts in lowest terms, modulo p. -/
def ofA (p : Nat) (z y : Int) : Nat := zmd p (Int.tdiv z (Int.gcd z y : Nat))
def ofB (p : Nat) (z y : Int) : Nat := zmd p (Int.tdiv y (Int.gcd z y : Nat))
def ofQ (p : Nat) (z y : Int) : Nat := ofA p z y * (ofB p z y ^ (p - 2) % p) % p
theorem gcd_parts {z y : Int} (hy : y ≠ 0) : 0 < Int.gcd z y ∧ ((Int.gcd z y : Nat) : Int) * Int.tdiv z (Int.gcd z y : Nat) = z ∧ ((Int.gcd z y : Nat) : Int) * Int.tdiv y (Int.gcd z y : Nat) = y ∧ Int.tmod z (Int.gcd z y : Nat) = 0 ∧ Int.tmod y (Int.gcd z y : Nat) = 0 := by
  have h1 : ((Int.gcd z y : Nat) : Int) ∣ z := Int.gcd_dvd_left ..
  have h2 : ((Int.gcd z y : Nat) : Int) ∣ y := Int.gcd_dvd_right ..
  exact ⟨Int.gcd_pos_of_ne_zero_right _ hy, Int.mul_tdiv_cancel' h1, Int.mul_tdiv_cancel' h2, Int.tmod_eq_zero_of_dvd h1, Int.tmod_eq_zero_of_dvd h2⟩
theorem ofrat_same {p : Nat} {z y : Int} (hp : Pr p) (hy : y ≠ 0) (h0 : zmd p y ≠ 0) : zmd p z * (zmd p y ^ (p - 2) % p) % p = ofQ p z y ∧ ofB p z y ≠ 0 := by
  obtain ⟨_, e1, e2, _, _⟩ := gcd_parts (z := z) hy
  have hp2 := hp.1
  have hA : zmd p z = Int.gcd z y * ofA p z y % p := by
    conv => lhs; rw [← e1]
    exact zmd_mul (by omega) _ _
  have hB : zmd p y = Int.gcd z y * ofB p z y % p := by
    conv => lhs; rw [← e2]
    exact zmd_mul (by omega) _ _
  have hlt := zmd_lt (p := p) (by omega) y
  obtain ⟨h1, h2⟩ := quo_red hp hA hB (by rw [Nat.mod_eq_of_lt hlt]; exact h0)
  exact ⟨h1, fun e => h2 (by rw [e]; exact Nat.zero_mod _)⟩
theorem ofB_zero {p : Nat} {z y : Int} (hp : Pr p) (hy : y ≠ 0) (h0 : ofB p z y = 0) : zmd p y = 0 := by
  obtain ⟨_, _, e2, _, _⟩ := gcd_parts (z := z) hy
  have hp2 := hp.1
  have hB : zmd p y = Int.gcd z y * ofB p z y % p := by
    conv => lhs; rw [← e2]
    exact zmd_mul (by omega) _ _
  rw [hB, h0, Nat.mul_zero, Nat.zero_mod]
theorem ze_dvd {z c : Int} (hc : c ≠ 0) (h : Int.tmod z c = 0) : exQ z c = Int.tdiv z c ∧ exE z c = 0 := by
  unfold exQ exE
  rw [if_neg hc, if_pos h, if_neg hc, if_pos h]
  exact ⟨rfl, rfl⟩
theorem tdiv_le (z : Int) (c : Nat) : (Int.tdiv z (c : Int)).natAbs ≤ z.natAbs := by
  rw [Int.natAbs_tdiv]; exact Nat.div_le_self _ _
theorem type_ne_rat : 28 ≠ 27 := by decide
theorem type_ne_ri : 25 ≠ 27 := by decide
/-- A store into a variable that holds a fraction leaves the limbs alone. -/
theorem res_rat {W : World} {B g i : Nat} {A : Option Addr} {c : Nat} {vs L : List Value} (h : Res W B 28 A c vs) (hB : Blk W g 27 L) (u : Value) : Res (W.setCell ⟨g, i, none⟩ u) B 28 A c vs :=
  ⟨h.1, h.2.1, fun hn => by
    obtain ⟨b, rest, e, hb, hk, hc⟩ := h.2.2 hn
    refine ⟨b, rest, e, hb, hk.far (p := ⟨g, i, none⟩) ?_ _, hc⟩
    rintro rfl
    unfold Blk at hk hB
    rw [hk] at hB
    have hB2 := Option.some.inj hB
    injection hB2 with _ e2 _
    exact type_ne_rat e2⟩
theorem res_rat2 {W : World} {B g i j : Nat} {A : Option Addr} {c : Nat} {vs L : List Value} (h : Res W B 28 A c vs) (hB : Blk W g 27 L) (u v : Value) : Res ((W.setCell ⟨g, i, none⟩ u).setCell ⟨g, j, none⟩ v) B 28 A c vs :=
  res_rat (res_rat h hB u) (hB.set_ i u) v
theorem gcd_lt {z y : Int} {K : Nat} (hy : y ≠ 0) (h : y.natAbs < 4294967296 ^ K) : Int.gcd z y < 4294967296 ^ K :=
  Nat.lt_of_le_of_lt (Nat.le_of_dvd (by omega) (Nat.gcd_dvd_right ..)) h
section
variable {w : World} {g g2 : Bool} {A A2 : Option Addr} {c c2 K : Nat} {xs ys : List Nat} {z y : Int}
set_option maxHeartbeats 3200000 in
theorem ofrat_no (p : Nat) (hp : ¬ Pr p) (hlt : p < 4294967296) (hw : Bases w) (hB : 0 < w.heap.size) :
    Calls Tryz.prog 5 #[.agg #[.bool g, .slice A xs.length c, .bool g2, .slice A2 ys.length c2], .int .u32 (p : Int)] w fun e w' => e = .returned (.tuple #[.int .u32 0, .int .i64 40]) ∧ Below w.heap.size w w' := by
  have k0 := bel_one w (.cells #[.bool g, .slice A xs.length c, .bool g2, .slice A2 ys.length c2] 27)
  have b0 : Blk (w.alloc (.cells #[.bool g, .slice A xs.length c, .bool g2, .slice A2 ys.length c2] 27)) w.heap.size 27 [.bool g, .slice A xs.length c, .bool g2, .slice A2 ys.length c2] := Blk.new_ rfl
  obtain ⟨w0, hw0⟩ : ∃ v, v = w.alloc (.cells #[.bool g, .slice A xs.length c, .bool g2, .slice A2 ys.length c2] 27) := ⟨_, rfl⟩
  rw [← hw0] at k0 b0
  have IS := Lib.hid (is_no p hp hlt _ (hw.next k0 hB))
  clear hp hw hB b0
  go_enter Tryz.func5, Tryz.ntmps5
  go_wp2_with fail
  rw [← hw0]
  clear hw0
  refine IS.out.mono ?_
  rintro e w1 ⟨rfl, rfl⟩
  go_wp2_with fail
  go_ret2
  exact ⟨rfl, k0⟩
set_option maxHeartbeats 3200000 in
theorem ofrat_den (p : Nat) (hp : Pr p) (hlt : p < 4294967296) (h2 : Zh w g2 A2 c2 ys 0 K) (hK : K ≤ 67108863) (hw : Bases w) (hB : 0 < w.heap.size) :
    Calls Tryz.prog 5 #[.agg #[.bool g, .slice A xs.length c, .bool g2, .slice A2 ys.length c2], .int .u32 (p : Int)] w fun e w' => e = .returned (.tuple #[.int .u32 0, .int .i64 6]) ∧ Below w.heap.size w w' := by
  have k0 := bel_one w (.cells #[.bool g, .slice A xs.length c, .bool g2, .slice A2 ys.length c2] 27)
  have b0 : Blk (w.alloc (.cells #[.bool g, .slice A xs.length c, .bool g2, .slice A2 ys.length c2] 27)) w.heap.size 27 [.bool g, .slice A xs.length c, .bool g2, .slice A2 ys.length c2] := Blk.new_ rfl
  obtain ⟨w0, hw0⟩ : ∃ v, v = w.alloc (.cells #[.bool g, .slice A xs.length c, .bool g2, .slice A2 ys.length c2] 27) := ⟨_, rfl⟩
  rw [← hw0] at k0 b0
  have IS := Lib.hid (is_yes p hp hlt _ (hw.next k0 hB))
  have SG := Lib.hid ((h2.next k0).sign (by omega))
  clear hp hw hB h2
  obtain ⟨p0, p1, p2, p3, _, _, _, _⟩ := b0.four
  go_enter Tryz.func5, Tryz.ntmps5
  go_wp2_with fail
  rw [← hw0]
  clear hw0
  refine IS.out.mono ?_
  rintro e w1 ⟨rfl, rfl⟩
  go_wp2_with fail
  refine SG.out.mono ?_
  rintro e w2 ⟨rfl, hb2⟩
  go_wp2_with fail
  go_ret2
  exact ⟨rfl, bst k0 hb2 (Nat.le_refl _)⟩
set_option maxHeartbeats 3200000 in
theorem ofrat_direct (p : Nat) (hp : Pr p) (hlt : p < 4294967296) (h : Zh w g A c xs z K) (h2 : Zh w g2 A2 c2 ys y K) (hK : K ≤ 33554431) (hy : y ≠ 0) (hw : Bases w) (hB : 0 < w.heap.size) (h0 : zmd p y ≠ 0) :
    Calls Tryz.prog 5 #[.agg #[.bool g, .slice A xs.length c, .bool g2, .slice A2 ys.length c2], .int .u32 (p : Int)] w fun e w' => e = .returned (.tuple #[.int .u32 (ofQ p z y : Nat), .int .i64 0]) ∧ Below w.heap.size w w' := by
  have k0 := bel_one w (.cells #[.bool g, .slice A xs.length c, .bool g2, .slice A2 ys.length c2] 27)
  have b0 : Blk (w.alloc (.cells #[.bool g, .slice A xs.length c, .bool g2, .slice A2 ys.length c2] 27)) w.heap.size 27 [.bool g, .slice A xs.length c, .bool g2, .slice A2 ys.length c2] := Blk.new_ rfl
  obtain ⟨w0, hw0⟩ : ∃ v, v = w.alloc (.cells #[.bool g, .slice A xs.length c, .bool g2, .slice A2 ys.length c2] 27) := ⟨_, rfl⟩
  rw [← hw0] at k0 b0
  have hp2 := hp.1
  have IS := Lib.hid (is_yes p hp hlt _ (hw.next k0 hB))
  have SG := Lib.hid ((h2.next k0).sign (by omega))
  have MB : Hid (∀ W (_ : Below w0.heap.size w0 W), Calls Tryz.prog 13 #[.agg #[.bool g2, .slice A2 ys.length c2], .int .u32 (p : Int)] W fun e w' => e = .returned (.tuple #[.int .u32 (zmd p y : Nat), .int .i64 0]) ∧ Below W.heap.size W w') := fun W hW => zmod_nat ((h2.next k0).next hW) (by omega) p (by omega) hlt
  have sz : (y.sign == 0) = false := beq_eq_false_iff_ne.2 (fun e => hy (Int.sign_eq_zero_iff_zero.1 e))
  obtain ⟨sg, hsg⟩ : ∃ v, v = y.sign := ⟨_, rfl⟩
  rw [← hsg] at SG sz
  have BS : Hid (∀ W (_ : Below w.heap.size w W), Bases W) := fun W hW => hw.next hW hB
  have MA : Hid (∀ W (_ : Below w0.heap.size w0 W), Calls Tryz.prog 13 #[.agg #[.bool g, .slice A xs.length c], .int .u32 (p : Int)] W fun e w' => e = .returned (.tuple #[.int .u32 (zmd p z : Nat), .int .i64 0]) ∧ Below W.heap.size W w') := fun W hW => zmod_nat ((h.next k0).next hW) (by omega) p (by omega) hlt
  have hBl := zmd_lt (p := p) (by omega) y
  have hAl := zmd_lt (p := p) (by omega) z
  obtain ⟨hq, _⟩ := ofrat_same (z := z) hp hy h0
  obtain ⟨Bv, hBv⟩ : ∃ v, v = zmd p y := ⟨_, rfl⟩
  obtain ⟨Av, hAv⟩ : ∃ v, v = zmd p z := ⟨_, rfl⟩
  obtain ⟨qv, hqv⟩ : ∃ v, v = ofQ p z y := ⟨_, rfl⟩
  rw [← hBv] at MB h0 hBl hq
  rw [← hAv] at MA hAl hq
  rw [← hqv] at hq ⊢
  have QU : Hid (∀ W (_ : Below w.heap.size w W), Calls Tryz.prog 17 #[.int .u32 (Av : Int), .int .u32 (Bv : Int), .int .u32 (p : Int)] W fun e w' => e = .returned (.tuple #[.int .u32 (qv : Int), .int .i64 0]) ∧ w' = W) := fun W hW => by
    have := pquo_yes Av Bv p (by omega) hp hlt (by rw [Nat.mod_eq_of_lt hBl]; exact h0) W (BS.out W hW)
    rw [hq] at this
    exact this
  have t0 : ((Bv : Int) == 0) = false := beq_eq_false_iff_ne.2 (by omega)
  clear hw hB h h2 hy hsg hBv hAv hqv hq h0 hBl hAl hp
  obtain ⟨p0, p1, p2, p3, _, _, _, _⟩ := b0.four
  go_enter Tryz.func5, Tryz.ntmps5
  go_wp2_with fail
  rw [← hw0]
  clear hw0
  refine IS.out.mono ?_
  rintro e w1 ⟨rfl, rfl⟩
  go_wp2_with fail
  refine SG.out.mono ?_
  rintro e w2 ⟨rfl, hb2⟩
  have b2 := b0.below hb2 b0.lt
  clear p0 p1 p2 p3 IS SG
  obtain ⟨p0, p1, p2, p3, _, _, _, _⟩ := b2.four
  go_wp2_with fail
  refine (MB.out _ hb2).mono ?_
  rintro e w3 ⟨rfl, hb3⟩
  have i3 := bst hb2 hb3 (Nat.le_refl _)
  have k3 := bst k0 i3 (Nat.le_refl _)
  have b3 := b2.below hb3 b2.lt
  clear p0 p1 p2 p3 MB hb2 hb3 b2
  obtain ⟨p0, p1, p2, p3, f0, f1, f2, f3⟩ := b3.four
  go_wp2_with fail
  refine (MA.out _ i3).mono ?_
  rintro e w4 ⟨rfl, hb4⟩
  have k4 := bst k3 hb4 (Nat.le_refl _)
  clear p0 p1 p2 p3 f0 f1 f2 f3
  go_wp2_with fail
  refine (QU.out _ k4).mono ?_
  rintro e w5 ⟨rfl, rfl⟩
  go_wp2_with fail
  go_ret2
  exact ⟨rfl, k4⟩
set_option maxHeartbeats 3200000 in
theorem ofrat_reduced (p : Nat) (hp : Pr p) (hlt : p < 4294967296) (h : Zh w g A c xs z K) (h2 : Zh w g2 A2 c2 ys y K) (hK : K ≤ 33554431) (hy : y ≠ 0) (hw : Bases w) (hB : 0 < w.heap.size) (hT : Tab64 w) (hTB : 1 < w.heap.size) (h0 : zmd p y = 0) (qv : Nat) (ev : Int) (QU : Hid (∀ W (_ : Below w.heap.size w W), Calls Tryz.prog 17 #[.int .u32 (ofA p z y : Nat), .int .u32 (ofB p z y : Nat), .int .u32 (p : Int)] W fun e w' => e = .returned (.tuple #[.int .u32 (qv : Int), .int .i64 ev]) ∧ w' = W)) :
    Calls Tryz.prog 5 #[.agg #[.bool g, .slice A xs.length c, .bool g2, .slice A2 ys.length c2], .int .u32 (p : Int)] w fun e w' => e = .returned (.tuple #[.int .u32 (qv : Int), .int .i64 ev]) ∧ Below w.heap.size w w' := by
  have k0 := bel_one w (.cells #[.bool g, .slice A xs.length c, .bool g2, .slice A2 ys.length c2] 27)
  have b0 : Blk (w.alloc (.cells #[.bool g, .slice A xs.length c, .bool g2, .slice A2 ys.length c2] 27)) w.heap.size 27 [.bool g, .slice A xs.length c, .bool g2, .slice A2 ys.length c2] := Blk.new_ rfl
  obtain ⟨w0, hw0⟩ : ∃ v, v = w.alloc (.cells #[.bool g, .slice A xs.length c, .bool g2, .slice A2 ys.length c2] 27) := ⟨_, rfl⟩
  rw [← hw0] at k0 b0
  have hp2 := hp.1
  have IS := Lib.hid (is_yes p hp hlt _ (hw.next k0 hB))
  have SG := Lib.hid ((h2.next k0).sign (by omega))
  have MB : Hid (∀ W (_ : Below w0.heap.size w0 W), Calls Tryz.prog 13 #[.agg #[.bool g2, .slice A2 ys.length c2], .int .u32 (p : Int)] W fun e w' => e = .returned (.tuple #[.int .u32 (zmd p y : Nat), .int .i64 0]) ∧ Below W.heap.size W w') := fun W hW => zmod_nat ((h2.next k0).next hW) (by omega) p (by omega) hlt
  have sz : (y.sign == 0) = false := beq_eq_false_iff_ne.2 (fun e => hy (Int.sign_eq_zero_iff_zero.1 e))
  obtain ⟨sg, hsg⟩ : ∃ v, v = y.sign := ⟨_, rfl⟩
  rw [← hsg] at SG sz
  have BS : Hid (∀ W (_ : Below w.heap.size w W), Bases W) := fun W hW => hw.next hW hB
  obtain ⟨gp, e1, e2, e3, e4⟩ := gcd_parts (z := z) hy
  have hgl := gcd_lt (z := z) hy h2.lt
  have hn1 := Nat.lt_of_le_of_lt (tdiv_le z (Int.gcd z y)) h.lt
  have hn2 := Nat.lt_of_le_of_lt (tdiv_le y (Int.gcd z y)) h2.lt
  obtain ⟨cg, hcg⟩ : ∃ v, v = Int.gcd z y := ⟨_, rfl⟩
  rw [← hcg] at gp e1 e2 e3 e4 hgl hn1 hn2
  obtain ⟨zn, hzn⟩ : ∃ v, v = Int.tdiv z cg := ⟨_, rfl⟩
  obtain ⟨yn, hyn⟩ : ∃ v, v = Int.tdiv y cg := ⟨_, rfl⟩
  rw [← hzn] at hn1
  rw [← hyn] at hn2
  have oA : ofA p z y = zmd p zn := by unfold ofA; rw [← hcg, ← hzn]
  have oB : ofB p z y = zmd p yn := by unfold ofB; rw [← hcg, ← hyn]
  have GC : Hid (∀ W (_ : Below w.heap.size w W) (b : Nat) (_ : Blk W b 25 [.bool g, .slice A xs.length c, .bool g2, .slice A2 ys.length c2]), Calls Tryz.prog 15 #[.slice (some ⟨b, 0, none⟩) 2 2] W fun e w' => ZOut W w' (cg : Nat) e) := fun W hW b hb => by
    rw [hcg]
    exact zgcd_pair h h2 (by omega) hW hb (hT.below hW hTB) (Nat.lt_of_lt_of_le hTB hW.size)
  have hc0 : (cg : Int) ≠ 0 := by omega
  have EXN : Hid (∀ (zg : List Nat) (Ag : Option Addr) (cq Bg : Nat) (wg W : World), Num 4294967296 zg (cg : Int).natAbs → Res wg Bg 28 Ag cq (u32s zg) → Below wg.heap.size wg W → Below w.heap.size w W → Calls Tryz.prog 16 #[.agg #[.bool g, .slice A xs.length c], .agg #[.bool (isNeg (cg : Nat)), .slice Ag zg.length cq]] W fun e w' => ZE W w' zn 0 e) := fun zg Ag cq Bg wg W n1 r1 h1 hW => by
    have h9 := (h.next hW).exact ((Zh.of (K := K) (z := (cg : Nat)) n1 r1 (by rw [Int.natAbs_natCast]; exact hgl)).next h1) (by omega) (by omega)
    rw [(ze_dvd hc0 e3).1, (ze_dvd hc0 e3).2, ← hzn] at h9
    exact h9
  have EXD : Hid (∀ (zg : List Nat) (Ag : Option Addr) (cq Bg : Nat) (wg W : World), Num 4294967296 zg (cg : Int).natAbs → Res wg Bg 28 Ag cq (u32s zg) → Below wg.heap.size wg W → Below w.heap.size w W → Calls Tryz.prog 16 #[.agg #[.bool g2, .slice A2 ys.length c2], .agg #[.bool (isNeg (cg : Nat)), .slice Ag zg.length cq]] W fun e w' => ZE W w' yn 0 e) := fun zg Ag cq Bg wg W n1 r1 h1 hW => by
    have h9 := (h2.next hW).exact ((Zh.of (K := K) (z := (cg : Nat)) n1 r1 (by rw [Int.natAbs_natCast]; exact hgl)).next h1) (by omega) (by omega)
    rw [(ze_dvd hc0 e4).1, (ze_dvd hc0 e4).2, ← hyn] at h9
    exact h9
  have MN : Hid (∀ (zs : List Nat) (As : Option Addr) (cs B9 : Nat) (W : World), Num 4294967296 zs zn.natAbs → Res W B9 28 As cs (u32s zs) → Calls Tryz.prog 13 #[.agg #[.bool (isNeg zn), .slice As zs.length cs], .int .u32 (p : Int)] W fun e w' => e = .returned (.tuple #[.int .u32 (zmd p zn : Nat), .int .i64 0]) ∧ Below W.heap.size W w') := fun zs As cs B9 W n1 r1 => zmod_nat (Zh.of (K := K) n1 r1 hn1) (by omega) p (by omega) hlt
  have MD : Hid (∀ (zs : List Nat) (As : Option Addr) (cs B9 : Nat) (W : World), Num 4294967296 zs yn.natAbs → Res W B9 28 As cs (u32s zs) → Calls Tryz.prog 13 #[.agg #[.bool (isNeg yn), .slice As zs.length cs], .int .u32 (p : Int)] W fun e w' => e = .returned (.tuple #[.int .u32 (zmd p yn : Nat), .int .i64 0]) ∧ Below W.heap.size W w') := fun zs As cs B9 W n1 r1 => zmod_nat (Zh.of (K := K) n1 r1 hn2) (by omega) p (by omega) hlt
  rw [oA, oB] at QU
  rw [h0] at MB
  obtain ⟨av, hav⟩ : ∃ v, v = zmd p zn := ⟨_, rfl⟩
  obtain ⟨bv, hbv⟩ : ∃ v, v = zmd p yn := ⟨_, rfl⟩
  rw [← hav] at MN QU
  rw [← hbv] at MD QU
  clear hw hB h h2 hy hsg h0 hp hT hTB gp e1 e2 e3 e4 hgl hn1 hn2 hcg hzn hyn oA oB hc0 hav hbv
  obtain ⟨p0, p1, p2, p3, _, _, _, _⟩ := b0.four
  go_enter Tryz.func5, Tryz.ntmps5
  go_wp2_with fail
  rw [← hw0]
  clear hw0
  refine IS.out.mono ?_
  rintro e w1 ⟨rfl, rfl⟩
  go_wp2_with fail
  refine SG.out.mono ?_
  rintro e w2 ⟨rfl, hb2⟩
  have b2 := b0.below hb2 b0.lt
  clear p0 p1 p2 p3 IS SG
  obtain ⟨p0, p1, p2, p3, _, _, _, _⟩ := b2.four
  go_wp2_with fail
  refine (MB.out _ hb2).mono ?_
  rintro e w3 ⟨rfl, hb3⟩
  have i3 := bst hb2 hb3 (Nat.le_refl _)
  have k3 := bst k0 i3 (Nat.le_refl _)
  have b3 := b2.below hb3 b2.lt
  clear p0 p1 p2 p3 MB hb2 hb3 b2
  obtain ⟨p0, p1, p2, p3, f0, f1, f2, f3⟩ := b3.four
  have bs : Blk (w3.alloc (.cells #[.bool g, .slice A xs.length c, .bool g2, .slice A2 ys.length c2] 25)) w3.heap.size 25 [.bool g, .slice A xs.length c, .bool g2, .slice A2 ys.length c2] := Blk.new_ rfl
  have j4 := bel_one w3 (.cells #[.bool g, .slice A xs.length c, .bool g2, .slice A2 ys.length c2] 25)
  go_wp2_with fail
  refine (GC.out _ (bst k3 j4 (Nat.le_refl _)) _ bs).mono ?_
  rintro e w5 ⟨zg, Ag, cq, rfl, ng, rg, hb5⟩
  have i5 := bst j4 hb5 (Nat.le_refl _)
  have k5 := bst k3 i5 (Nat.le_refl _)
  have b5 := b3.below i5 b3.lt
  clear p0 p1 p2 p3 f0 f1 f2 f3 GC bs j4 b3
  have b6 := b5.heapAlloc (.cells #[.bool (isNeg (cg : Nat)), .slice Ag zg.length cq] 25)
  have bg := blk_one w5 (.bool (isNeg (cg : Nat))) (.slice Ag zg.length cq)
  have i6 := bel_one w5 (.cells #[.bool (isNeg (cg : Nat)), .slice Ag zg.length cq] 25)
  go_upto_region 8 with fail
  obtain ⟨w6, hw6⟩ : ∃ v, v = w5.alloc (.cells #[.bool (isNeg (cg : Nat)), .slice Ag zg.length cq] 25) := ⟨_, rfl⟩
  rw [← hw6] at b6 bg i6 ⊢
  clear hw6 b5
  have og : w.heap.size ≠ w5.heap.size := by have := b6.lt; have := k5.size; have := b0.lt; have := i3.size; have := i5.size; omega
  have og2 := Ne.symm og
  obtain ⟨gc, hgc⟩ : ∃ v, v = w5.heap.size := ⟨_, rfl⟩
  rw [← hgc] at bg og og2 ⊢
  have k6 := bst k5 i6 (Nat.le_refl _)
  have i6c : Below w5.heap.size w5 w6 := i6
  clear hb5 hgc
  obtain ⟨p0, p1, p2, p3, f0, f1, f2, f3⟩ := b6.four
  obtain ⟨q0, q1, _, _⟩ := bg.two
  go_wp2_with fail
  refine (EXN.out zg Ag cq _ w5 w6 ng rg i6c k6).mono ?_
  rintro e w7 ⟨zs, As, cs, rfl, ns, rs, hb7⟩
  have i7 := bst i6 hb7 (Nat.le_refl _)
  have k7 := bst k6 hb7 (Nat.le_refl _)
  have b7 := b6.below hb7 b6.lt
  have bg7 := bg.below hb7 bg.lt
  clear p0 p1 p2 p3 f0 f1 f2 f3 q0 q1 EXN b6 bg i6c
  obtain ⟨p0, p1, p2, p3, f0, f1, f2, f3⟩ := b7.four
  have rg7 := rg.below (bst i6 hb7 (Nat.le_refl _)) (Nat.le_refl _)
  have rS := res_rat2 (i := 0) (j := 1) rs b7 (.bool (isNeg zn)) (.slice As zs.length cs)
  have rgS := res_rat2 (i := 0) (j := 1) rg7 b7 (.bool (isNeg zn)) (.slice As zs.length cs)
  have bS := (b7.set_ 0 (.bool (isNeg zn))).set_ 1 (.slice As zs.length cs)
  have bgS := (bg7.far (p := ⟨w.heap.size, 0, none⟩) og2 (.bool (isNeg zn))).far (p := ⟨w.heap.size, 1, none⟩) og2 (.slice As zs.length cs)
  have kS := bsc (i := 1) (bsc (i := 0) (g := w.heap.size) k7 (Nat.le_refl _) (.bool (isNeg zn))) (Nat.le_refl w.heap.size) (.slice As zs.length cs)
  simp only [List.set_cons_zero, List.set_cons_succ] at bS
  go_upto_region 9 with fail
  obtain ⟨wS, hwS⟩ : ∃ v, v = (w7.setCell ⟨w.heap.size, 0, none⟩ (.bool (isNeg zn))).setCell ⟨w.heap.size, 1, none⟩ (.slice As zs.length cs) := ⟨_, rfl⟩
  rw [← hwS] at rS rgS bS bgS kS ⊢
  clear hwS p0 p1 p2 p3 f0 f1 f2 f3 b7 bg7 rs rg rg7 hb7 k7 i7
  obtain ⟨p0, p1, p2, p3, f0, f1, f2, f3⟩ := bS.four
  obtain ⟨q0, q1, _, _⟩ := bgS.two
  go_wp2_with fail
  refine (EXD.out zg Ag cq _ wS wS ng rgS (Below.refl _ _) kS).mono ?_
  rintro e w8 ⟨zd, Ad, cd, rfl, nd, rd, hb8⟩
  have k8 := bst kS hb8 (Nat.le_refl _)
  have b8 := bS.below hb8 bS.lt
  have rs8 := rS.below hb8 (Nat.le_refl _)
  clear p0 p1 p2 p3 f0 f1 f2 f3 q0 q1 EXD bS bgS rS rgS hb8 kS
  obtain ⟨p0, p1, p2, p3, f0, f1, f2, f3⟩ := b8.four
  have rT := res_rat2 (i := 2) (j := 3) rd b8 (.bool (isNeg yn)) (.slice Ad zd.length cd)
  have rsT := res_rat2 (i := 2) (j := 3) rs8 b8 (.bool (isNeg yn)) (.slice Ad zd.length cd)
  have bT := (b8.set_ 2 (.bool (isNeg yn))).set_ 3 (.slice Ad zd.length cd)
  have kT := bsc (i := 3) (bsc (i := 2) (g := w.heap.size) k8 (Nat.le_refl _) (.bool (isNeg yn))) (Nat.le_refl w.heap.size) (.slice Ad zd.length cd)
  simp only [List.set_cons_zero, List.set_cons_succ] at bT
  go_upto_region 10 with fail
  obtain ⟨wT, hwT⟩ : ∃ v, v = (w8.setCell ⟨w.heap.size, 2, none⟩ (.bool (isNeg yn))).setCell ⟨w.heap.size, 3, none⟩ (.slice Ad zd.length cd) := ⟨_, rfl⟩
  rw [← hwT] at rT rsT bT kT ⊢
  clear hwT p0 p1 p2 p3 f0 f1 f2 f3 b8 rd rs8 k8
  obtain ⟨p0, p1, p2, p3, _, _, _, _⟩ := bT.four
  go_wp2_with fail
  refine (MD.out zd Ad cd _ wT nd rT).mono ?_
  rintro e w9 ⟨rfl, hb9⟩
  have k9 := bst kT hb9 (Nat.le_refl _)
  have b9 := bT.below hb9 bT.lt
  have rs9 := rsT.below hb9 (Nat.le_refl _)
  clear p0 p1 p2 p3 MD bT rT rsT hb9 kT
  obtain ⟨p0, p1, p2, p3, _, _, _, _⟩ := b9.four
  go_wp2_with fail
  refine (MN.out zs As cs _ w9 ns rs9).mono ?_
  rintro e w10 ⟨rfl, hb10⟩
  have k10 := bst k9 hb10 (Nat.le_refl _)
  clear p0 p1 p2 p3 MN b9 rs9 hb10 k9
  go_wp2_with fail
  refine (QU.out _ k10).mono ?_
  rintro e w11 ⟨rfl, rfl⟩
  go_wp2_with fail
  go_ret2
  exact ⟨rfl, k10⟩
end
end Go.Proofs.YtcfalkcceanldaaGreatDoor
