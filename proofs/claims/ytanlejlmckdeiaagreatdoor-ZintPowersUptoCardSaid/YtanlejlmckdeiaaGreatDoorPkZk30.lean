/- The contract of nat.Bit. No conditions beyond the sizes. The contracts of zint's Euclid, Trunc, Exact, Near and Of. Conditions: at most 2^26 limbs. -/
import Derived.Test.YtanlejlmckdeiaaGreatDoorPkZk21
import Derived.Test.YtanlejlmckdeiaaGreatDoorPkZk5
import Derived.Test.YtanlejlmckdeiaaGreatDoorPkZk26
import Derived.Test.YtanlejlmckdeiaaGreatDoorPkZk27
import Derived.Test.YtanlejlmckdeiaaGreatDoorPkZk28
import Derived.Test.YtanlejlmckdeiaaGreatDoorPkZk29
namespace Go.Proofs.YtanlejlmckdeiaaGreatDoor
section
open Go.RowKit

/-- A bit, of any place. -/
def bitOf (xs : List Nat) (i : Int) : Nat := if i < 0 then 0 else bitAt xs i.toNat
theorem bitAt_le (xs : List Nat) (i : Nat) : bitAt xs i < 2 := Nat.mod_lt _ (by omega)
theorem bitAt_out {xs : List Nat} {i : Nat} (h : 32 * xs.length ≤ i) : bitAt xs i = 0 := by
  unfold bitAt
  rw [at0_out (by omega)]; simp

theorem shr_nat (x t : Nat) : (x : Int) / 2 ^ t = ((x / 2 ^ t : Nat) : Int) := by rw [Int.natCast_ediv, Int.natCast_pow]; rfl
theorem one_bit (x : Nat) (h : x < 18446744073709551616) : bits .and .u64 (x : Int) 1 = ((x % 2 : Nat) : Int) := by
  have := bits_and_u64_nat x 1 h (by omega)
  rw [show ((1 : Nat) : Int) = 1 from rfl] at this
  rw [this, Nat.and_one_is_mod]
theorem one_bitw (x : Nat) (h : x < 18446744073709551616) : bits .and .u64 (IntKind.u64.wrap (x : Int)) 1 = ((x % 2 : Nat) : Int) := by
  rw [show IntKind.u64.wrap (x : Int) = (x : Int) from by rw [IntKind.wrap_u64]; omega, one_bit _ h]

set_option maxHeartbeats 800000 in
theorem bit_any (A : Option Addr) (c : Nat) (xs : List Nat) (i : Int) (w : World) (B : Nat) (hr : Rd w B A (u32s xs)) (hd : Dig 4294967296 xs) (hm : xs.length ≤ 281474976710656) (hi : i ≤ 9223372036854775807) :
    Calls Tryz.prog 62 #[.slice A xs.length c, .int .i64 i] w fun e w' => e = .returned (.int .u64 (bitOf xs i : Nat)) ∧ Dr w w' := by
  obtain ⟨b0, hb0⟩ : ∃ b0, b0 = bitOf xs i := ⟨_, rfl⟩
  rw [← hb0]
  unfold bitOf at hb0
  rcases Int.lt_or_le i 0 with h0 | h0
  · rw [if_pos h0] at hb0
    subst hb0
    have t0 : decide (i < 0) = true := decide_eq_true h0
    go_enter Tryz.func62, Tryz.ntmps62
    go_wp2_with fail
    go_ret
    exact ⟨rfl, Dr.refl _⟩
  · rw [if_neg (by omega)] at hb0
    obtain ⟨n, rfl⟩ := Int.eq_ofNat_of_zero_le h0
    rw [Int.toNat_natCast] at hb0
    have t0 : decide ((n : Int) < 0) = false := by simp
    obtain ⟨k, t, hn, ht⟩ : ∃ k t, n = 32 * k + t ∧ t < 32 := ⟨n / 32, n % 32, by omega, by omega⟩
    have q1 : (n : Int) / 32 = (k : Int) := by omega
    have q2 : (n : Int) % 32 = (t : Int) := by omega
    rw [hn] at hb0
    clear hn
    by_cases hlt : k < xs.length
    · have t1 : decide ((xs.length : Int) ≤ (k : Int)) = false := by simp; omega
      rw [bitAt_in hlt ht] at hb0
      obtain ⟨b, off, rfl, hb, hcell⟩ := hr (by intro e; have := u32s_length xs; rw [e] at this; simp at this; omega)
      have hx := hcell k _ (u32s_at hlt)
      have hxd := hd.at_ k hlt
      obtain ⟨x, hxe⟩ : ∃ x, x = xs[k] := ⟨_, rfl⟩
      rw [← hxe] at hx hxd hb0
      have Hb0 := Lib.hid hb0
      have Ht := Lib.hid ht
      have hps : Hid (x / 2 ^ t < 4294967296) := by show _ < _; have := Nat.div_le_self x (2 ^ t); omega
      clear hcell hr hxe hb0
      go_enter Tryz.func62, Tryz.ntmps62
      go_wp2_with (first | (simp only [q2]) | (simp only [q1]) | (simp only [q2]))
      go_ret
      refine ⟨?_, Dr.refl _⟩
      rw [Hb0.out]
      have hq := hps.out
      show Ending.returned (.int .u64 (bits .and .u64 (IntKind.u64.wrap ((x : Int) / 2 ^ t)) 1)) = _
      rw [shr_nat, one_bitw _ (by omega)]
    · rw [bitAt_out (by omega)] at hb0
      subst hb0
      have t1 : decide ((xs.length : Int) ≤ (k : Int)) = true := by simp; omega
      go_enter Tryz.func62, Tryz.ntmps62
      go_wp2_with (first | (simp only [q1, q2]) | (simp only [q1]) | (simp only [q2]))
      go_ret
      exact ⟨rfl, Dr.refl _⟩
end
section
open Go.RowKit

/-- What a division answers: a quotient, a remainder, an error's number. -/
def ZQ (w w' : World) (q r er : Int) (e : Ending) : Prop := ∃ qs rs A1 c1 A3 c3, e = .returned (.tuple #[.agg #[.bool (isNeg q), .slice A1 qs.length c1], .agg #[.bool (isNeg r), .slice A3 rs.length c3], .int .i64 er]) ∧ Num 4294967296 qs q.natAbs ∧ Num 4294967296 rs r.natAbs ∧ Res w' w.heap.size 61 A1 c1 (u32s qs) ∧ Res w' w.heap.size 61 A3 c3 (u32s rs) ∧ Below w.heap.size w w'
/-- What a call answers that tells an integer and an error's number. -/
def ZE (w w' : World) (q er : Int) (e : Ending) : Prop := ∃ qs A1 c1, e = .returned (.tuple #[.agg #[.bool (isNeg q), .slice A1 qs.length c1], .int .i64 er]) ∧ Num 4294967296 qs q.natAbs ∧ Res w' w.heap.size 61 A1 c1 (u32s qs) ∧ Below w.heap.size w w'
def euQ (z y : Int) : Int := z / y
def euR (z y : Int) : Int := if y = 0 then 0 else z % y
def euE (y : Int) : Int := if y = 0 then 5 else 0
theorem up_eq (m k : Nat) : upQ m k = if true = true ∧ m % k ≠ 0 then m / k + 1 else m / k := by unfold upQ; by_cases h : m % k = 0 <;> simp [h]
theorem upr_eq (m k : Nat) : upR m k = if true = true ∧ m % k ≠ 0 then k - m % k else m % k := by unfold upR; by_cases h : m % k = 0 <;> simp [h]
section
variable {w : World} {g g2 : Bool} {A A2 : Option Addr} {c c2 K J : Nat} {xs ys : List Nat} {z y : Int}
theorem divide_e (h : Zh w g A c xs z K) (h2 : Zh w g2 A2 c2 ys y J) (hK : K ≤ 67108864) (hJ : J ≤ 67108864) :
    Calls Tryz.prog 59 #[.agg #[.bool g, .slice A xs.length c], .agg #[.bool g2, .slice A2 ys.length c2], .int .i64 1] w fun e w' => ZQ w w' (euQ z y) (euR z y) (euE y) e := by
  by_cases hy : y = 0
  · subst hy
    refine (divide_nought 1 h h2 hK hJ).mono ?_
    rintro e w' ⟨rfl, hb⟩
    have e1 : euQ z 0 = 0 := Int.ediv_zero z
    rw [e1]
    exact ⟨[], [], none, 0, none, 0, rfl, Num.zero_ _, Num.zero_ _, Res.none_, Res.none_, hb⟩
  · have e2 := ediv_ival g g2 z.natAbs y.natAbs (by omega)
    rw [h.sg, h2.sg] at e2
    have eE : euE y = 0 := if_neg hy
    have eR : euR z y = z % y := if_neg hy
    rw [eE, eR, show euQ z y = z / y from rfl, e2.1, e2.2]
    cases g <;> cases g2
    · refine (divide_1ff h h2 hy hK hJ).mono fun e w' h9 => ?_
      simpa [ZQ, ZQOut, ivalN] using h9
    · refine (divide_1ft h h2 hy hK hJ).mono fun e w' h9 => ?_
      simpa [ZQ, ZQOut, ivalN] using h9
    · refine (divide_1tf h h2 hy hK hJ).mono fun e w' h9 => ?_
      rw [up_eq, upr_eq] at h9
      exact h9
    · refine (divide_1tt h h2 hy hK hJ).mono fun e w' h9 => ?_
      rw [up_eq, upr_eq] at h9
      exact h9
def trQ (z y : Int) : Int := Int.tdiv z y
def trR (z y : Int) : Int := if y = 0 then 0 else Int.tmod z y
theorem divide_t (h : Zh w g A c xs z K) (h2 : Zh w g2 A2 c2 ys y J) (hK : K ≤ 67108864) (hJ : J ≤ 67108864) :
    Calls Tryz.prog 59 #[.agg #[.bool g, .slice A xs.length c], .agg #[.bool g2, .slice A2 ys.length c2], .int .i64 0] w fun e w' => ZQ w w' (trQ z y) (trR z y) (euE y) e := by
  by_cases hy : y = 0
  · subst hy
    refine (divide_nought 0 h h2 hK hJ).mono ?_
    rintro e w' ⟨rfl, hb⟩
    have e1 : trQ z 0 = 0 := Int.tdiv_zero z
    rw [e1]
    exact ⟨[], [], none, 0, none, 0, rfl, Num.zero_ _, Num.zero_ _, Res.none_, Res.none_, hb⟩
  · have e1 := tdiv_ival g g2 z.natAbs y.natAbs
    have e2 := tmod_ival g g2 z.natAbs y.natAbs
    rw [h.sg, h2.sg] at e1 e2
    have eE : euE y = 0 := if_neg hy
    have eR : trR z y = Int.tmod z y := if_neg hy
    rw [eE, eR, show trQ z y = Int.tdiv z y from rfl, e1, e2]
    cases g <;> cases g2
    · exact divide_0ff h h2 hy hK hJ
    · exact divide_0ft h h2 hy hK hJ
    · exact divide_0tf h h2 hy hK hJ
    · exact divide_0tt h h2 hy hK hJ
end
/-- A function that answers two integers that lie in cells of its own, and an error's number. -/
theorem zq_ret {fn : Func} {a : Act} {w W : World} {p q u : Tmp} {g g2 : Nat} {x y x2 y2 : Value} {Q R er : Int} {qs rs : List Nat} {A1 A3 : Option Addr} {c1 c3 : Nat} (k : Below w.heap.size w W) (b : Blk W g 28 [x, y]) (b2 : Blk W g2 28 [x2, y2]) (hne : g ≠ g2) (hg : w.heap.size ≤ g) (hg2 : w.heap.size ≤ g2)
    (hq : Num 4294967296 qs Q.natAbs) (hr : Num 4294967296 rs R.natAbs) (rq : Res W w.heap.size 61 A1 c1 (u32s qs)) (rr : Res W w.heap.size 61 A3 c3 (u32s rs)) (hres0 : fn.results = #[.cell p 28, .cell q 28, .tmp u]) (hp : a.tmps.getD p undef = .pointer (some ⟨g, 0, none⟩)) (hp2 : a.tmps.getD q undef = .pointer (some ⟨g2, 0, none⟩)) (hu : a.tmps.getD u undef = .int .i64 er) (hd : a.defers = []) :
    bodyPost Tryz.prog fn (fun e w' => ZQ w w' Q R er e) .ret a ((((W.setCell ⟨g, 0, none⟩ (.bool (isNeg Q))).setCell ⟨g, 1, none⟩ (.slice A1 qs.length c1)).setCell ⟨g2, 0, none⟩ (.bool (isNeg R))).setCell ⟨g2, 1, none⟩ (.slice A3 rs.length c3)) := by
  have e4 : Blk ((W.setCell ⟨g, 0, none⟩ (.bool (isNeg Q))).setCell ⟨g, 1, none⟩ (.slice A1 qs.length c1)) g2 28 [x2, y2] := (b2.far (p := ⟨g, 0, none⟩) (fun e => hne e.symm) _).far (p := ⟨g, 1, none⟩) (fun e => hne e.symm) _
  exact bodyPost_ret (results_zzs hres0 hp hp2 (((blk_pair b _ _).far (p := ⟨g2, 0, none⟩) hne _).far (p := ⟨g2, 1, none⟩) hne _) (blk_pair e4 _ _)) hd ⟨qs, rs, A1, c1, A3, c3, by rw [hu], hq, hr, res_var2 (res_var2 rq b _ _) e4 _ _, res_var2 (res_var2 rr b _ _) e4 _ _, bsc (bsc (bsc (bsc k hg _) hg _) hg2 _) hg2 _⟩
/-- The same with one integer. -/
theorem ze_ret {fn : Func} {a : Act} {w W : World} {p u : Tmp} {g : Nat} {x y : Value} {b : Bool} {Q er : Int} {qs : List Nat} {A1 : Option Addr} {c1 : Nat} (k : Below w.heap.size w W) (hb : Blk W g 28 [x, y]) (hg : w.heap.size ≤ g)
    (hq : Num 4294967296 qs Q.natAbs) (rq : Res W w.heap.size 61 A1 c1 (u32s qs)) (hbq : b = isNeg Q) (hres0 : fn.results = #[.cell p 28, .tmp u]) (hp : a.tmps.getD p undef = .pointer (some ⟨g, 0, none⟩)) (hu : a.tmps.getD u undef = .int .i64 er) (hd : a.defers = []) :
    bodyPost Tryz.prog fn (fun e w' => ZE w w' Q er e) .ret a ((W.setCell ⟨g, 0, none⟩ (.bool b)).setCell ⟨g, 1, none⟩ (.slice A1 qs.length c1)) := by
  subst hbq
  exact bodyPost_ret (results_zs hres0 hp (blk_pair hb _ _)) hd ⟨qs, A1, c1, by rw [hu], hq, res_var2 rq hb _ _, bsc (bsc k hg _) hg _⟩
section
variable {w : World} {g g2 : Bool} {A A2 : Option Addr} {c c2 K J : Nat} {xs ys : List Nat} {z y : Int}

set_option maxHeartbeats 1600000 in
theorem Zh.euclid (h : Zh w g A c xs z K) (h2 : Zh w g2 A2 c2 ys y J) (hK : K ≤ 67108864) (hJ : J ≤ 67108864) :
    Calls Tryz.prog 29 #[.agg #[.bool g, .slice A xs.length c], .agg #[.bool g2, .slice A2 ys.length c2]] w fun e w' => ZQ w w' (euQ z y) (euR z y) (euE y) e := by
  have D1 : Hid (∀ W (_ : Below w.heap.size w W), Calls Tryz.prog 59 #[.agg #[.bool g, .slice A xs.length c], .agg #[.bool g2, .slice A2 ys.length c2], .int .i64 1] W fun e w' => ZQ W w' (euQ z y) (euR z y) (euE y) e) := fun W hW => divide_e (h.next hW) (h2.next hW) hK hJ
  clear h h2
  obtain ⟨b0, b1, b2, b3⟩ := blk_four w (.bool g) (.slice A xs.length c) (.bool g2) (.slice A2 ys.length c2) (.bool false) (.slice none 0 0) (.bool false) (.slice none 0 0)
  have k0 := bel_four w (.cells #[.bool g, .slice A xs.length c] 28) (.cells #[.bool g2, .slice A2 ys.length c2] 28) (.cells #[.bool false, .slice none 0 0] 28) (.cells #[.bool false, .slice none 0 0] 28)
  go_enter Tryz.func29, Tryz.ntmps29
  go_wp2_with fail
  refine (D1.out _ k0).mono ?_
  rintro e w1 ⟨qs, rs, A1, c1, A3, c3, rfl, hq, hr, rq, rr, hb1⟩
  have hsz := k0.size
  have k1 := bst k0 hb1 (Nat.le_refl _)
  replace b2 := b2.below hb1 b2.lt
  replace b3 := b3.below hb1 b3.lt
  obtain ⟨p0, p1, p2, p3⟩ := b2.two
  obtain ⟨q0, q1, q2, q3⟩ := b3.two
  go_wp2_with fail
  exact zq_ret k1 b2 b3 (by omega) (by omega) (by omega) hq hr (rq.mono hsz) (rr.mono hsz) rfl rfl rfl rfl rfl

set_option maxHeartbeats 1600000 in
theorem Zh.trunc (h : Zh w g A c xs z K) (h2 : Zh w g2 A2 c2 ys y J) (hK : K ≤ 67108864) (hJ : J ≤ 67108864) :
    Calls Tryz.prog 30 #[.agg #[.bool g, .slice A xs.length c], .agg #[.bool g2, .slice A2 ys.length c2]] w fun e w' => ZQ w w' (trQ z y) (trR z y) (euE y) e := by
  have D1 : Hid (∀ W (_ : Below w.heap.size w W), Calls Tryz.prog 59 #[.agg #[.bool g, .slice A xs.length c], .agg #[.bool g2, .slice A2 ys.length c2], .int .i64 0] W fun e w' => ZQ W w' (trQ z y) (trR z y) (euE y) e) := fun W hW => divide_t (h.next hW) (h2.next hW) hK hJ
  clear h h2
  obtain ⟨b0, b1, b2, b3⟩ := blk_four w (.bool g) (.slice A xs.length c) (.bool g2) (.slice A2 ys.length c2) (.bool false) (.slice none 0 0) (.bool false) (.slice none 0 0)
  have k0 := bel_four w (.cells #[.bool g, .slice A xs.length c] 28) (.cells #[.bool g2, .slice A2 ys.length c2] 28) (.cells #[.bool false, .slice none 0 0] 28) (.cells #[.bool false, .slice none 0 0] 28)
  go_enter Tryz.func30, Tryz.ntmps30
  go_wp2_with fail
  refine (D1.out _ k0).mono ?_
  rintro e w1 ⟨qs, rs, A1, c1, A3, c3, rfl, hq, hr, rq, rr, hb1⟩
  have hsz := k0.size
  have k1 := bst k0 hb1 (Nat.le_refl _)
  replace b2 := b2.below hb1 b2.lt
  replace b3 := b3.below hb1 b3.lt
  obtain ⟨p0, p1, p2, p3⟩ := b2.two
  obtain ⟨q0, q1, q2, q3⟩ := b3.two
  go_wp2_with fail
  exact zq_ret k1 b2 b3 (by omega) (by omega) (by omega) hq hr (rq.mono hsz) (rr.mono hsz) rfl rfl rfl rfl rfl

/-- The error of an exact division. -/
def exE (z y : Int) : Int := if y = 0 then 5 else if Int.tmod z y = 0 then 0 else 30
def exQ (z y : Int) : Int := if y = 0 then 0 else if Int.tmod z y = 0 then Int.tdiv z y else 0
set_option maxHeartbeats 3200000 in
theorem Zh.exact (h : Zh w g A c xs z K) (h2 : Zh w g2 A2 c2 ys y J) (hK : K ≤ 67108864) (hJ : J ≤ 67108864) :
    Calls Tryz.prog 32 #[.agg #[.bool g, .slice A xs.length c], .agg #[.bool g2, .slice A2 ys.length c2]] w fun e w' => ZE w w' (exQ z y) (exE z y) e := by
  have D1 : Hid (∀ W (_ : Below w.heap.size w W), Calls Tryz.prog 30 #[.agg #[.bool g, .slice A xs.length c], .agg #[.bool g2, .slice A2 ys.length c2]] W fun e w' => ZQ W w' (trQ z y) (trR z y) (euE y) e) := fun W hW => (h.next hW).trunc (h2.next hW) hK hJ
  obtain ⟨b0, b1, b2⟩ := blk_three w (.bool g) (.slice A xs.length c) (.bool g2) (.slice A2 ys.length c2) (.bool false) (.slice none 0 0)
  have k0 := bel_three w (.cells #[.bool g, .slice A xs.length c] 28) (.cells #[.bool g2, .slice A2 ys.length c2] 28) (.cells #[.bool false, .slice none 0 0] 28)
  have hyl := h2.hv.lt
  have hzl : (Int.tmod z y).natAbs = z.natAbs % y.natAbs := by
    have e2 := tmod_ival g g2 z.natAbs y.natAbs
    rw [h.sg, h2.sg] at e2
    rw [e2, abs_ival]
  clear h h2
  by_cases hy : y = 0
  · have eE : euE y = 5 := if_pos hy
    rw [eE] at D1
    have e1 : exE z y = 5 := if_pos hy
    have e2 : exQ z y = 0 := if_pos hy
    rw [e1, e2]
    clear hy eE e1 e2 hyl hzl
    go_enter Tryz.func32, Tryz.ntmps32
    go_wp2_with fail
    refine (D1.out _ k0).mono ?_
    rintro e w1 ⟨qs, rs, A1, c1, A3, c3, rfl, hq, hr, rq, rr, hb1⟩
    have k1 := bst k0 hb1 (Nat.le_refl _)
    replace b2 := b2.below hb1 b2.lt
    have hz : w.heap.size + 1 + 1 < w1.heap.size := b2.lt
    obtain ⟨p0, p1, p2, p3⟩ := b2.two
    obtain ⟨p4, p5, p6, p7⟩ := ((b2.heapAlloc (.cells #[.bool (isNeg (trQ z y)), .slice A1 qs.length c1] 28)).heapAlloc (.cells #[.bool (isNeg (trR z y)), .slice A3 rs.length c3] 28)).two
    go_wp2_with fail
    exact ze_ret (qs := []) (bal (bal k1 (Nat.le_refl _) _) (Nat.le_refl _) _) ((b2.heapAlloc _).heapAlloc _) (by omega) (Num.zero_ _) Res.none_ rfl rfl rfl rfl rfl
  · have eE : euE y = 0 := if_neg hy
    have eR : trR z y = Int.tmod z y := if_neg hy
    rw [eE, eR] at D1
    have hRl : (Int.tmod z y).natAbs < 4294967296 ^ J := by
      have := Nat.mod_lt z.natAbs (show 0 < y.natAbs by omega)
      omega
    obtain ⟨R, hR⟩ : ∃ R, R = Int.tmod z y := ⟨_, rfl⟩
    rw [← hR] at D1 hRl
    by_cases h0 : R = 0
    · have e1 : exE z y = 0 := by unfold exE; rw [if_neg hy, if_pos (by rw [← hR]; exact h0)]
      have e2 : exQ z y = trQ z y := by unfold exQ; rw [if_neg hy, if_pos (by rw [← hR]; exact h0)]; rfl
      rw [e1, e2]
      have d0 : decide (R = 0) = true := decide_eq_true h0
      have D0 := Lib.hid d0
      clear hy eE eR e1 e2 hR h0 d0 hyl hzl
      go_enter Tryz.func32, Tryz.ntmps32
      go_wp2_with fail
      refine (D1.out _ k0).mono ?_
      rintro e w1 ⟨qs, rs, A1, c1, A3, c3, rfl, hq, hr, rq, rr, hb1⟩
      have hsz := k0.size
      have k1 := bst k0 hb1 (Nat.le_refl _)
      replace b2 := b2.below hb1 b2.lt
      have hz := b2.lt
      have Z1 : Hid (∀ W (_ : Below w1.heap.size w1 W), Calls Tryz.prog 42 #[.agg #[.bool (isNeg R), .slice A3 rs.length c3]] W fun e w' => e = .returned (.bool true) ∧ Below W.heap.size W w') := fun W hW => by
        have := (((Zn.shrink hr rr hRl).next hW).zh).isZero hJ
        rwa [D0.out] at this
      have Hq := Lib.hid hq
      have Rq := Lib.hid rq
      clear hq hr rq rr
      go_wp2_with fail
      refine (Z1.out _ (bal (bal (Below.refl _ _) (Nat.le_refl _) _) (Nat.le_refl _) _)).mono ?_
      rintro e w2 ⟨rfl, hb2⟩
      have c1' : Blk w2 w1.heap.size 28 [.bool (isNeg (trQ z y)), .slice A1 qs.length c1] := ((Blk.new_ (w := w1) (t := 28) (cs := #[.bool (isNeg (trQ z y)), .slice A1 qs.length c1]) (vs := [.bool (isNeg (trQ z y)), .slice A1 qs.length c1]) rfl).heapAlloc _).below hb2 (by simp <;> omega)
      have j2 : Below w1.heap.size w1 w2 := bst (bal (bal (Below.refl _ _) (Nat.le_refl _) _) (Nat.le_refl _) _) hb2 (Nat.le_refl _)
      have b9 := b2.below j2 b2.lt
      obtain ⟨p0, p1, p2, p3⟩ := b9.two
      obtain ⟨q0, q1, q2, q3⟩ := c1'.two
      go_wp2_with fail
      exact ze_ret (bst k1 j2 (Nat.le_refl _)) b9 (by omega) Hq.out ((Rq.out.below j2 (Nat.le_refl _)).mono hsz) rfl rfl rfl rfl rfl
    · have e1 : exE z y = 30 := by unfold exE; rw [if_neg hy, if_neg (by rw [← hR]; exact h0)]
      have e2 : exQ z y = 0 := by unfold exQ; rw [if_neg hy, if_neg (by rw [← hR]; exact h0)]
      rw [e1, e2]
      have d0 : decide (R = 0) = false := decide_eq_false h0
      have D0 := Lib.hid d0
      clear hy eE eR e1 e2 hR h0 d0 hyl hzl
      go_enter Tryz.func32, Tryz.ntmps32
      go_wp2_with fail
      refine (D1.out _ k0).mono ?_
      rintro e w1 ⟨qs, rs, A1, c1, A3, c3, rfl, hq, hr, rq, rr, hb1⟩
      have k1 := bst k0 hb1 (Nat.le_refl _)
      replace b2 := b2.below hb1 b2.lt
      have hz := b2.lt
      have Z1 : Hid (∀ W (_ : Below w1.heap.size w1 W), Calls Tryz.prog 42 #[.agg #[.bool (isNeg R), .slice A3 rs.length c3]] W fun e w' => e = .returned (.bool false) ∧ Below W.heap.size W w') := fun W hW => by
        have := (((Zn.shrink hr rr hRl).next hW).zh).isZero hJ
        rwa [D0.out] at this
      clear hq hr rq rr
      go_wp2_with fail
      refine (Z1.out _ (bal (bal (Below.refl _ _) (Nat.le_refl _) _) (Nat.le_refl _) _)).mono ?_
      rintro e w2 ⟨rfl, hb2⟩
      have j2 : Below w1.heap.size w1 w2 := bst (bal (bal (Below.refl _ _) (Nat.le_refl _) _) (Nat.le_refl _) _) hb2 (Nat.le_refl _)
      have b9 := b2.below j2 b2.lt
      obtain ⟨p0, p1, p2, p3⟩ := b9.two
      go_wp2_with fail
      exact ze_ret (qs := []) (bst k1 j2 (Nat.le_refl _)) b9 (by omega) (Num.zero_ _) Res.none_ rfl rfl rfl rfl rfl
end
end
end Go.Proofs.YtanlejlmckdeiaaGreatDoor
