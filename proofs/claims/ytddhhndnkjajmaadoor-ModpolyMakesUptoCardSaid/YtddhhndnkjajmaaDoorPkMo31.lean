/- ModpolyValues answers true. Conditions: bases is as the program lays it; the sizes. all of the law's: no errors; the calls whose answers are looked at later. Conditions: as each states. ModpolyMakes answers true. Conditions: bases is as the program lays it; the sizes. What the bound on the whole input gives. No conditions. -/
import Derived.Test.YtddhhndnkjajmaaDoorPkMo18
import Derived.Test.YtddhhndnkjajmaaDoorPkMo30
import Derived.Test.YtddhhndnkjajmaaDoorRows
namespace Go.Proofs.YtddhhndnkjajmaaDoor
section
open Go.RowKit

theorem mnP_getD (p : Nat) (a : List Nat) (i : Nat) : (mnP p a).getD i 0 = a.getD i 0 % p := by
  unfold mnP
  rw [trimL_getD, List.getD_eq_getElem?_getD, List.getD_eq_getElem?_getD, List.getElem?_map]
  cases a[i]? <;> simp
theorem derN_far {p : Nat} {a : List Nat} {i : Nat} (h : a.length ≤ i + 1) : derN p a i = 0 := by unfold derN; rw [getD_nat h]; simp
theorem derP_getD (p : Nat) (a : List Nat) (i : Nat) : (derP p a).getD i 0 = derN p a i := by
  unfold derP
  rw [trimL_getD, List.getD_eq_getElem?_getD, List.getElem?_map]
  by_cases h : i < a.length - 1
  · rw [List.getElem?_range h]; rfl
  · rw [List.getElem?_eq_none (by simp; omega), derN_far (by omega)]; rfl
theorem derP_mn {p : Nat} (hp : 0 < p) (a : List Nat) : derP p (mnP p a) = derP p a :=
  trimL_eq (derP_nf hp _).2 (derP_nf hp _).2 fun i => by
    rw [derP_getD, derP_getD]
    unfold derN
    rw [mnP_getD, Nat.mul_mod_mod]
theorem evN_mn {p : Nat} (hp : 0 < p) (a : List Nat) (x : Nat) : evN p (mnP p a) (x % p) = evN p a x := by
  have h1 := evN_cg p (mnP p a) (x % p)
  have h2 := evN_cg p a x
  have h3 := (mnP_cg p a).val ((x % p : Nat) : Int)
  obtain ⟨q, hq⟩ := (zo a).root ((x % p : Nat) : Int)
  have h4 := hq x
  obtain ⟨k, hk⟩ := mod_dvd x p
  have h5 := evN_lt hp (mnP p a) (x % p)
  have h6 := evN_lt hp a x
  obtain ⟨c1, h1⟩ := h1
  obtain ⟨c2, h2⟩ := h2
  obtain ⟨c3, h3⟩ := h3
  have h7 : (p : Int) ∣ ((evN p (mnP p a) (x % p) : Nat) : Int) - ((evN p a x : Nat) : Int) := by
    have e : (x : Int) - ((x % p : Nat) : Int) = (p : Int) * ((x : Int) / p) := by
      have := Int.mul_ediv_add_emod (x : Int) p; rw [Int.natCast_emod]; omega
    refine ⟨c1 + c3 - c2 - (x : Int) / p * q.v x, ?_⟩
    rw [e] at h4
    have h8 : (p : Int) * ((x : Int) / p) * q.v x = (p : Int) * ((x : Int) / p * q.v x) := Int.mul_assoc _ _ _
    have h9 : (p : Int) * (c1 + c3 - c2 - (x : Int) / p * q.v x) = p * c1 + p * c3 - p * c2 - p * ((x : Int) / p * q.v x) := by grind
    omega
  have h8 := Int.eq_zero_of_dvd_of_natAbs_lt_natAbs h7 (by omega)
  omega

set_option maxRecDepth 20000 in
set_option maxHeartbeats 3200000 in
theorem values_no (Aa : Option Addr) (ca : Nat) (a : List Nat) (x p : Nat) (w : World) (hx : Bx w) (ra : Rd w w.heap.size Aa (u32s a)) (hma : a.length ≤ 1048576) (fa : Fit a) (_ : x < 4294967296) (hp : p < 4294967296) (hpr : ¬ Pr p) :
    Calls Tryd.prog 5 #[.slice Aa a.length ca, .int .u32 (x : Int), .int .u32 (p : Int)] w fun e w' => e = .returned (.bool true) ∧ Below w.heap.size w w' := by
  have HX : Hid (∀ W, Below w.heap.size w W → Bx W) := fun W hW => hx.below hW (Nat.le_refl _)
  have HAW : Hid (∀ W, Below w.heap.size w W → Calls Tryd.prog 29 #[] W fun e w' => e = .returned (.bool true) ∧ Below W.heap.size W w') := fun W hW => lawake_any W (HX.out W hW)
  have HN : Hid (∀ k W, Calls Tryd.prog 22 #[.int .i64 k] W fun e w' => e = .returned (.int .i64 k) ∧ Below W.heap.size W w') := fun k W => (pnum_any k W).mono fun _ _ h => ⟨h.1, h.2 ▸ Below.refl _ _⟩
  have HG : Hid (∀ W, Calls Tryd.prog 11 #[.int .u32 (p : Int)] W fun e w' => e = .returned (.tuple #[.int .u32 7, .int .i64 40]) ∧ Below W.heap.size W w') := fun W => (good_no p hpr hp W).mono fun _ _ h => ⟨h.1, h.2 ▸ Below.refl _ _⟩
  obtain ⟨d, hd⟩ : ∃ d, d = derP 7 a := ⟨_, rfl⟩
  have HRD : Hid (∀ W, Rd W W.heap.size Aa (u32s a) → Calls Tryd.prog 36 #[.slice Aa a.length ca, .int .u32 7] W (PR1 W d)) := fun W h => by rw [hd]; exact yDeriv pr7 (by decide) fa (by omega) W Aa ca h
  have HPE : Hid (∀ W, Below w.heap.size w W → Calls Tryd.prog 33 #[.slice Aa a.length ca, .int .u32 (x : Int), .int .u32 (p : Int)] W fun e w' => e = .returned (.tuple #[.int .u32 0, .int .i64 40]) ∧ Below W.heap.size W w') := fun W hW => pEval_no Aa _ ca x p W hpr hp (HX.out W hW).bases
  have HPD : Hid (∀ W, Below w.heap.size w W → Calls Tryd.prog 34 #[.slice Aa a.length ca, .int .u32 (p : Int)] W fun e w' => e = .returned (.tuple #[.slice none 0 0, .int .i64 40]) ∧ Below W.heap.size W w') := fun W hW => pDeriv_no Aa _ ca p W hpr hp (HX.out W hW).bases
  have HPF : Hid (∀ W, Below w.heap.size w W → Calls Tryd.prog 35 #[.slice Aa a.length ca, .int .u32 (p : Int)] W fun e w' => e = .returned (.tuple #[.bool false, .int .i64 40]) ∧ Below W.heap.size W w') := fun W hW => pFree_no Aa _ ca p W hpr hp (HX.out W hW).bases
  have HT : Hid (∀ W A2 m c2, Calls Tryd.prog 21 #[.slice none 0 0, .int .i64 40, .slice A2 m c2, .int .i64 40] W fun e w' => e = .returned (.bool true) ∧ Below W.heap.size W w') := fun W A2 m c2 => (told_err A2 0 m c2 none 40 (by decide) W).mono fun _ _ h => ⟨h.1, h.2.below _⟩
  have Ra := Lib.hid ra
  have HB0 : Hid (Below w.heap.size w w) := Below.refl _ _
  clear ra fa hx hp hpr hma hd
  go_enter Tryd.func5, Tryd.ntmps5
  go_wp2_with (first
    | (go_at_call 11; (with_reducible refine (HG.out _).mono ?_); rintro _ w1z ⟨rfl, hb1⟩; have hx1 : Below w.heap.size w w1z := (by first | exact hb1 | exact (Below.refl _ _).drew.trans hb1); have HB1 := Lib.hid (HB0.out.trans (hx1.mono HB0.out.size)); have zR1_a := Lib.hid ((Ra.out.below hx1).mono hx1.size); clear hx1; clear Ra)
    | (go_at_call 33; (with_reducible refine (HPE.out _ (by first | exact HB1.out | exact HB1.out.drew)).mono ?_); rintro _ w2z ⟨rfl, hb2⟩; have hx2 : Below w1z.heap.size w1z w2z := (by first | exact hb2 | exact (Below.refl _ _).drew.trans hb2); have HB2 := Lib.hid (HB1.out.trans (hx2.mono HB1.out.size)); have zR2_a := Lib.hid ((zR1_a.out.below hx2).mono hx2.size); clear hx2; clear zR1_a)
    | (go_at_call 34; (with_reducible refine (HPD.out _ (by first | exact HB2.out | exact HB2.out.drew)).mono ?_); rintro _ w3z ⟨rfl, hb3⟩; have hx3 : Below w2z.heap.size w2z w3z := (by first | exact hb3 | exact (Below.refl _ _).drew.trans hb3); have HB3 := Lib.hid (HB2.out.trans (hx3.mono HB2.out.size)); have zR3_a := Lib.hid ((zR2_a.out.below hx3).mono hx3.size); clear hx3; clear zR2_a)
    | (go_at_call 35; (with_reducible refine (HPF.out _ (by first | exact HB3.out | exact HB3.out.drew)).mono ?_); rintro _ w4z ⟨rfl, hb4⟩; have hx4 : Below w3z.heap.size w3z w4z := (by first | exact hb4 | exact (Below.refl _ _).drew.trans hb4); have HB4 := Lib.hid (HB3.out.trans (hx4.mono HB3.out.size)); have zR4_a := Lib.hid ((zR3_a.out.below hx4).mono hx4.size); clear hx4; clear zR3_a)
    | (go_at_call 36; (with_reducible refine (HRD.out _ (by first | exact zR4_a.out | exact zR4_a.out.drewS)).mono ?_); rintro _ w5z ⟨_, rfl, A5, c5, rfl, hr5, hb5⟩; have hx5 : Below w4z.heap.size w4z w5z := (by first | exact hb5 | exact (Below.refl _ _).drew.trans hb5); have HB5 := Lib.hid (HB4.out.trans (hx5.mono HB4.out.size)); have zR5_a := Lib.hid ((zR4_a.out.below hx5).mono hx5.size); have zR5_d := Lib.hid hr5.rd; clear hx5; clear hr5; clear zR4_a)
    | (go_at_call 22; (with_reducible refine (HN.out _ _).mono ?_); rintro _ w6z ⟨rfl, hb6⟩; have hx6 : Below w5z.heap.size w5z w6z := (by first | exact hb6 | exact (Below.refl _ _).drew.trans hb6); have HB6 := Lib.hid (HB5.out.trans (hx6.mono HB5.out.size)); have zR6_a := Lib.hid ((zR5_a.out.below hx6).mono hx6.size); have zR6_d := Lib.hid ((zR5_d.out.below hx6).mono hx6.size); clear hx6; clear zR5_a zR5_d)
    | (go_at_call 21; (with_reducible refine (HT.out _ _ _ _).mono ?_); rintro _ w7z ⟨rfl, hb7⟩; have hx7 : Below w6z.heap.size w6z w7z := (by first | exact hb7 | exact (Below.refl _ _).drew.trans hb7); have HB7 := Lib.hid (HB6.out.trans (hx7.mono HB6.out.size)); have zR7_a := Lib.hid ((zR6_a.out.below hx7).mono hx7.size); have zR7_d := Lib.hid ((zR6_d.out.below hx7).mono hx7.size); clear hx7; clear zR6_a zR6_d)
    | (go_at_call 22; (with_reducible refine (HN.out _ _).mono ?_); rintro _ w8z ⟨rfl, hb8⟩; have hx8 : Below w7z.heap.size w7z w8z := (by first | exact hb8 | exact (Below.refl _ _).drew.trans hb8); have HB8 := Lib.hid (HB7.out.trans (hx8.mono HB7.out.size)); have zR8_a := Lib.hid ((zR7_a.out.below hx8).mono hx8.size); have zR8_d := Lib.hid ((zR7_d.out.below hx8).mono hx8.size); clear hx8; clear zR7_a zR7_d)
    | (go_at_call 29; (with_reducible refine (HAW.out _ (by first | exact HB8.out | exact HB8.out.drew)).mono ?_); rintro _ w9z ⟨rfl, hb9⟩; have hx9 : Below w8z.heap.size w8z w9z := (by first | exact hb9 | exact (Below.refl _ _).drew.trans hb9); have HB9 := Lib.hid (HB8.out.trans (hx9.mono HB8.out.size)); have zR9_a := Lib.hid ((zR8_a.out.below hx9).mono hx9.size); have zR9_d := Lib.hid ((zR8_d.out.below hx9).mono hx9.size); clear hx9; clear zR8_a zR8_d))
  go_ret
  exact ⟨rfl, HB9.out⟩

set_option maxRecDepth 20000 in
set_option maxHeartbeats 3200000 in
theorem values_zero (Aa : Option Addr) (ca : Nat) (a : List Nat) (x p : Nat) (w : World) (hx : Bx w) (ra : Rd w w.heap.size Aa (u32s a)) (hma : a.length ≤ 1048576) (fa : Fit a) (hxl : x < 4294967296) (hp : p < 4294967296) (hpr : Pr p) (nz : mnP p a = []) :
    Calls Tryd.prog 5 #[.slice Aa a.length ca, .int .u32 (x : Int), .int .u32 (p : Int)] w fun e w' => e = .returned (.bool true) ∧ Below w.heap.size w w' := by
  have HX : Hid (∀ W, Below w.heap.size w W → Bx W) := fun W hW => hx.below hW (Nat.le_refl _)
  have HAW : Hid (∀ W, Below w.heap.size w W → Calls Tryd.prog 29 #[] W fun e w' => e = .returned (.bool true) ∧ Below W.heap.size W w') := fun W hW => lawake_any W (HX.out W hW)
  have HN : Hid (∀ k W, Calls Tryd.prog 22 #[.int .i64 k] W fun e w' => e = .returned (.int .i64 k) ∧ Below W.heap.size W w') := fun k W => (pnum_any k W).mono fun _ _ h => ⟨h.1, h.2 ▸ Below.refl _ _⟩
  have HG : Hid (∀ W, Calls Tryd.prog 11 #[.int .u32 (p : Int)] W fun e w' => e = .returned (.tuple #[.int .u32 (p : Int), .int .i64 0]) ∧ Below W.heap.size W w') := fun W => (good_yes p hpr hp W).mono fun _ _ h => ⟨h.1, h.2 ▸ Below.refl _ _⟩
  obtain ⟨d, hd⟩ : ∃ d, d = derP p a := ⟨_, rfl⟩
  have HRD : Hid (∀ W, Rd W W.heap.size Aa (u32s a) → Calls Tryd.prog 36 #[.slice Aa a.length ca, .int .u32 (p : Int)] W (PR1 W d)) := fun W h => by rw [hd]; exact yDeriv hpr hp fa (by omega) W Aa ca h
  obtain ⟨v, hv⟩ : ∃ v, v = evN p a x := ⟨_, rfl⟩
  have hdm : derP p (mnP p a) = d := by rw [hd]; exact derP_mn hpr.pos a
  have ld : d.length ≤ 281474976710656 := by have h1 := trimL_length_le ((List.range (a.length - 1)).map (derN p a)); rw [hd]; unfold derP; simp at h1; omega
  have HPE : Hid (∀ W, Below w.heap.size w W → Rd W W.heap.size Aa (u32s a) → Calls Tryd.prog 33 #[.slice Aa a.length ca, .int .u32 (x : Int), .int .u32 (p : Int)] W fun e w' => e = .returned (.tuple #[.int .u32 (v : Int), .int .i64 0]) ∧ Below W.heap.size W w') := fun W hW h => by
    have := xEval hpr hp hxl fa W Aa ca (HX.out W hW).bases h
    rw [evN_mn hpr.pos, ← hv] at this
    exact this
  have HPD : Hid (∀ W, Below w.heap.size w W → Rd W W.heap.size Aa (u32s a) → Calls Tryd.prog 34 #[.slice Aa a.length ca, .int .u32 (p : Int)] W (PE W d)) := fun W hW h => by
    have := xDeriv hpr hp fa W Aa ca (HX.out W hW).bases h
    rw [hdm] at this
    exact this
  have HRE : Hid (∀ W, Rd W W.heap.size Aa (u32s a) → Calls Tryd.prog 37 #[.slice Aa a.length ca, .int .u32 (x : Int), .int .u32 (p : Int)] W fun e w' => e = .returned (.int .u32 (v : Int)) ∧ Below W.heap.size W w') := fun W h => by
    rw [hv]; exact (yEval hpr hp hxl fa W Aa ca h).mono fun _ _ h => ⟨h.1, h.2.below _⟩
  have HT : Hid (∀ W A1 c1 A2 c2, Rd W W.heap.size A1 (u32s d) → Rd W W.heap.size A2 (u32s d) → Calls Tryd.prog 21 #[.slice A1 d.length c1, .int .i64 0, .slice A2 d.length c2, .int .i64 0] W fun e w' => e = .returned (.bool true) ∧ Below W.heap.size W w') := fun W A1 c1 A2 c2 h1 h2 => (told_ok A1 A2 c1 c2 d d W h1 h2 ld rfl).mono fun _ _ h => ⟨h.1, h.2.below _⟩
  obtain ⟨n, hn⟩ : ∃ n, n = mnP p a := ⟨_, rfl⟩
  have HRN : Hid (∀ W, Rd W W.heap.size Aa (u32s a) → Calls Tryd.prog 19 #[.slice Aa a.length ca, .int .u32 (p : Int)] W (PR1 W n)) := fun W h => by rw [hn]; exact yNorm hpr hp fa W Aa ca h
  have HPF : Hid (∀ W, Below w.heap.size w W → Rd W W.heap.size Aa (u32s a) → Calls Tryd.prog 35 #[.slice Aa a.length ca, .int .u32 (p : Int)] W fun e w' => e = .returned (.tuple #[.bool false, .int .i64 70]) ∧ Below W.heap.size W w') := fun W hW h => pFreeZ_yes Aa ca a p W _ hpr hp (HX.out W hW).bases (Nat.le_refl _) h fa.1 fa.2 nz
  have t1 : ((n.length : Int) == 0) = true := by rw [hn, nz]; rfl
  have Ra := Lib.hid ra
  have HB0 : Hid (Below w.heap.size w w) := Below.refl _ _
  clear ra fa hx hp hpr hma hxl hd hv hn hdm ld nz
  go_enter Tryd.func5, Tryd.ntmps5
  go_wp2_with (first
    | (go_at_call 11; (with_reducible refine (HG.out _).mono ?_); rintro _ w1z ⟨rfl, hb1⟩; have hx1 : Below w.heap.size w w1z := (by first | exact hb1 | exact (Below.refl _ _).drew.trans hb1); have HB1 := Lib.hid (HB0.out.trans (hx1.mono HB0.out.size)); have zR1_a := Lib.hid ((Ra.out.below hx1).mono hx1.size); clear hx1; clear Ra)
    | (go_at_call 33; (with_reducible refine (HPE.out _ (by first | exact HB1.out | exact HB1.out.drew) (by first | exact zR1_a.out | exact zR1_a.out.drewS)).mono ?_); rintro _ w2z ⟨rfl, hb2⟩; have hx2 : Below w1z.heap.size w1z w2z := (by first | exact hb2 | exact (Below.refl _ _).drew.trans hb2); have HB2 := Lib.hid (HB1.out.trans (hx2.mono HB1.out.size)); have zR2_a := Lib.hid ((zR1_a.out.below hx2).mono hx2.size); clear hx2; clear zR1_a)
    | (go_at_call 34; (with_reducible refine (HPD.out _ (by first | exact HB2.out | exact HB2.out.drew) (by first | exact zR2_a.out | exact zR2_a.out.drewS)).mono ?_); rintro _ w3z ⟨A3, c3, rfl, hr3, hb3⟩; have hx3 : Below w2z.heap.size w2z w3z := (by first | exact hb3 | exact (Below.refl _ _).drew.trans hb3); have HB3 := Lib.hid (HB2.out.trans (hx3.mono HB2.out.size)); have zR3_a := Lib.hid ((zR2_a.out.below hx3).mono hx3.size); have zR3_d := Lib.hid hr3.rd; clear hx3; clear hr3; clear zR2_a)
    | (go_at_call 35; (with_reducible refine (HPF.out _ (by first | exact HB3.out | exact HB3.out.drew) (by first | exact zR3_a.out | exact zR3_a.out.drewS)).mono ?_); rintro _ w4z ⟨rfl, hb4⟩; have hx4 : Below w3z.heap.size w3z w4z := (by first | exact hb4 | exact (Below.refl _ _).drew.trans hb4); have HB4 := Lib.hid (HB3.out.trans (hx4.mono HB3.out.size)); have zR4_a := Lib.hid ((zR3_a.out.below hx4).mono hx4.size); have zR4_d := Lib.hid ((zR3_d.out.below hx4).mono hx4.size); clear hx4; clear zR3_a zR3_d)
    | (go_at_call 36; (with_reducible refine (HRD.out _ (by first | exact zR4_a.out | exact zR4_a.out.drewS)).mono ?_); rintro _ w5z ⟨_, rfl, A5, c5, rfl, hr5, hb5⟩; have hx5 : Below w4z.heap.size w4z w5z := (by first | exact hb5 | exact (Below.refl _ _).drew.trans hb5); have HB5 := Lib.hid (HB4.out.trans (hx5.mono HB4.out.size)); have zR5_a := Lib.hid ((zR4_a.out.below hx5).mono hx5.size); have zR5_d := Lib.hid ((zR4_d.out.below hx5).mono hx5.size); have zR5_d2 := Lib.hid hr5.rd; clear hx5; clear hr5; clear zR4_a zR4_d)
    | (go_at_call 37; (with_reducible refine (HRE.out _ (by first | exact zR5_a.out | exact zR5_a.out.drewS)).mono ?_); rintro _ w6z ⟨rfl, hb6⟩; have hx6 : Below w5z.heap.size w5z w6z := (by first | exact hb6 | exact (Below.refl _ _).drew.trans hb6); have HB6 := Lib.hid (HB5.out.trans (hx6.mono HB5.out.size)); have zR6_a := Lib.hid ((zR5_a.out.below hx6).mono hx6.size); have zR6_d := Lib.hid ((zR5_d.out.below hx6).mono hx6.size); have zR6_d2 := Lib.hid ((zR5_d2.out.below hx6).mono hx6.size); clear hx6; clear zR5_a zR5_d zR5_d2)
    | (go_at_call 22; (with_reducible refine (HN.out _ _).mono ?_); rintro _ w7z ⟨rfl, hb7⟩; have hx7 : Below w6z.heap.size w6z w7z := (by first | exact hb7 | exact (Below.refl _ _).drew.trans hb7); have HB7 := Lib.hid (HB6.out.trans (hx7.mono HB6.out.size)); have zR7_a := Lib.hid ((zR6_a.out.below hx7).mono hx7.size); have zR7_d := Lib.hid ((zR6_d.out.below hx7).mono hx7.size); have zR7_d2 := Lib.hid ((zR6_d2.out.below hx7).mono hx7.size); clear hx7; clear zR6_a zR6_d zR6_d2)
    | (go_at_call 21; (with_reducible refine (HT.out _ _ _ _ _ (by first | exact zR7_d.out | exact zR7_d.out.drewS) (by first | exact zR7_d2.out | exact zR7_d2.out.drewS)).mono ?_); rintro _ w8z ⟨rfl, hb8⟩; have hx8 : Below w7z.heap.size w7z w8z := (by first | exact hb8 | exact (Below.refl _ _).drew.trans hb8); have HB8 := Lib.hid (HB7.out.trans (hx8.mono HB7.out.size)); have zR8_a := Lib.hid ((zR7_a.out.below hx8).mono hx8.size); have zR8_d2 := Lib.hid ((zR7_d2.out.below hx8).mono hx8.size); clear hx8; clear zR7_a zR7_d2)
    | (go_at_call 19; (with_reducible refine (HRN.out _ (by first | exact zR8_a.out | exact zR8_a.out.drewS)).mono ?_); rintro _ w9z ⟨_, rfl, A9, c9, rfl, hr9, hb9⟩; have hx9 : Below w8z.heap.size w8z w9z := (by first | exact hb9 | exact (Below.refl _ _).drew.trans hb9); have HB9 := Lib.hid (HB8.out.trans (hx9.mono HB8.out.size)); have zR9_a := Lib.hid ((zR8_a.out.below hx9).mono hx9.size); have zR9_d2 := Lib.hid ((zR8_d2.out.below hx9).mono hx9.size); have zR9_n := Lib.hid hr9.rd; clear hx9; clear hr9; clear zR8_a zR8_d2)
    | (go_at_call 22; (with_reducible refine (HN.out _ _).mono ?_); rintro _ w10z ⟨rfl, hb10⟩; have hx10 : Below w9z.heap.size w9z w10z := (by first | exact hb10 | exact (Below.refl _ _).drew.trans hb10); have HB10 := Lib.hid (HB9.out.trans (hx10.mono HB9.out.size)); have zR10_a := Lib.hid ((zR9_a.out.below hx10).mono hx10.size); have zR10_d2 := Lib.hid ((zR9_d2.out.below hx10).mono hx10.size); clear hx10; clear zR9_a zR9_d2)
    | (go_at_call 29; (with_reducible refine (HAW.out _ (by first | exact HB10.out | exact HB10.out.drew)).mono ?_); rintro _ w11z ⟨rfl, hb11⟩; have hx11 : Below w10z.heap.size w10z w11z := (by first | exact hb11 | exact (Below.refl _ _).drew.trans hb11); have HB11 := Lib.hid (HB10.out.trans (hx11.mono HB10.out.size)); have zR11_a := Lib.hid ((zR10_a.out.below hx11).mono hx11.size); have zR11_d2 := Lib.hid ((zR10_d2.out.below hx11).mono hx11.size); clear hx11; clear zR10_a zR10_d2))
  go_ret
  exact ⟨rfl, HB11.out⟩

set_option maxRecDepth 20000 in
set_option maxHeartbeats 3200000 in
theorem values_yes (Aa : Option Addr) (ca : Nat) (a : List Nat) (x p : Nat) (w : World) (hx : Bx w) (ra : Rd w w.heap.size Aa (u32s a)) (hma : a.length ≤ 1048576) (fa : Fit a) (hxl : x < 4294967296) (hp : p < 4294967296) (hpr : Pr p) (nz : mnP p a ≠ []) :
    Calls Tryd.prog 5 #[.slice Aa a.length ca, .int .u32 (x : Int), .int .u32 (p : Int)] w fun e w' => e = .returned (.bool true) ∧ Below w.heap.size w w' := by
  have HX : Hid (∀ W, Below w.heap.size w W → Bx W) := fun W hW => hx.below hW (Nat.le_refl _)
  have HAW : Hid (∀ W, Below w.heap.size w W → Calls Tryd.prog 29 #[] W fun e w' => e = .returned (.bool true) ∧ Below W.heap.size W w') := fun W hW => lawake_any W (HX.out W hW)
  have HN : Hid (∀ k W, Calls Tryd.prog 22 #[.int .i64 k] W fun e w' => e = .returned (.int .i64 k) ∧ Below W.heap.size W w') := fun k W => (pnum_any k W).mono fun _ _ h => ⟨h.1, h.2 ▸ Below.refl _ _⟩
  have HG : Hid (∀ W, Calls Tryd.prog 11 #[.int .u32 (p : Int)] W fun e w' => e = .returned (.tuple #[.int .u32 (p : Int), .int .i64 0]) ∧ Below W.heap.size W w') := fun W => (good_yes p hpr hp W).mono fun _ _ h => ⟨h.1, h.2 ▸ Below.refl _ _⟩
  obtain ⟨d, hd⟩ : ∃ d, d = derP p a := ⟨_, rfl⟩
  have HRD : Hid (∀ W, Rd W W.heap.size Aa (u32s a) → Calls Tryd.prog 36 #[.slice Aa a.length ca, .int .u32 (p : Int)] W (PR1 W d)) := fun W h => by rw [hd]; exact yDeriv hpr hp fa (by omega) W Aa ca h
  obtain ⟨v, hv⟩ : ∃ v, v = evN p a x := ⟨_, rfl⟩
  have hdm : derP p (mnP p a) = d := by rw [hd]; exact derP_mn hpr.pos a
  have ld : d.length ≤ 281474976710656 := by have h1 := trimL_length_le ((List.range (a.length - 1)).map (derN p a)); rw [hd]; unfold derP; simp at h1; omega
  have HPE : Hid (∀ W, Below w.heap.size w W → Rd W W.heap.size Aa (u32s a) → Calls Tryd.prog 33 #[.slice Aa a.length ca, .int .u32 (x : Int), .int .u32 (p : Int)] W fun e w' => e = .returned (.tuple #[.int .u32 (v : Int), .int .i64 0]) ∧ Below W.heap.size W w') := fun W hW h => by
    have := xEval hpr hp hxl fa W Aa ca (HX.out W hW).bases h
    rw [evN_mn hpr.pos, ← hv] at this
    exact this
  have HPD : Hid (∀ W, Below w.heap.size w W → Rd W W.heap.size Aa (u32s a) → Calls Tryd.prog 34 #[.slice Aa a.length ca, .int .u32 (p : Int)] W (PE W d)) := fun W hW h => by
    have := xDeriv hpr hp fa W Aa ca (HX.out W hW).bases h
    rw [hdm] at this
    exact this
  have HRE : Hid (∀ W, Rd W W.heap.size Aa (u32s a) → Calls Tryd.prog 37 #[.slice Aa a.length ca, .int .u32 (x : Int), .int .u32 (p : Int)] W fun e w' => e = .returned (.int .u32 (v : Int)) ∧ Below W.heap.size W w') := fun W h => by
    rw [hv]; exact (yEval hpr hp hxl fa W Aa ca h).mono fun _ _ h => ⟨h.1, h.2.below _⟩
  have HT : Hid (∀ W A1 c1 A2 c2, Rd W W.heap.size A1 (u32s d) → Rd W W.heap.size A2 (u32s d) → Calls Tryd.prog 21 #[.slice A1 d.length c1, .int .i64 0, .slice A2 d.length c2, .int .i64 0] W fun e w' => e = .returned (.bool true) ∧ Below W.heap.size W w') := fun W A1 c1 A2 c2 h1 h2 => (told_ok A1 A2 c1 c2 d d W h1 h2 ld rfl).mono fun _ _ h => ⟨h.1, h.2.below _⟩
  obtain ⟨n, hn⟩ : ∃ n, n = mnP p a := ⟨_, rfl⟩
  have HRN : Hid (∀ W, Rd W W.heap.size Aa (u32s a) → Calls Tryd.prog 19 #[.slice Aa a.length ca, .int .u32 (p : Int)] W (PR1 W n)) := fun W h => by rw [hn]; exact yNorm hpr hp fa W Aa ca h
  have HPF : Hid (∀ W, Below w.heap.size w W → Rd W W.heap.size Aa (u32s a) → Calls Tryd.prog 35 #[.slice Aa a.length ca, .int .u32 (p : Int)] W fun e w' => ∃ g be, e = .returned (.tuple #[.bool be, .int .i64 0]) ∧ ((g.length : Int) == 1) = be ∧ Gc p (zo a) (zo d) g ∧ Below W.heap.size W w') := fun W hW h => (pFree_yes Aa ca a p W _ hpr hp (HX.out W hW).bases (Nat.le_refl _) h fa.1 fa.2 nz).mono fun _ _ ⟨g, h1, h2, h3⟩ => ⟨g, _, h1, rfl, by
      rw [hdm] at h2
      obtain ⟨s, t, h4⟩ := h2.lin
      exact ⟨h2.nf, h2.mo, ⟨s, t, h4.trans (((Cg.refl s).mul (mnP_cg p a)).add (Cg.refl _))⟩, h2.left.cg (mnP_cg p a), h2.right⟩, h3⟩
  have dn : Fit d := Fit.nf (by rw [hd]; exact derP_nf hpr.pos a) hp (by have h1 := trimL_length_le ((List.range (a.length - 1)).map (derN p a)); rw [hd]; unfold derP; simp at h1; omega)
  have HRG : Hid (∀ W A2 c2 g, Gc p (zo a) (zo d) g → Rd W W.heap.size Aa (u32s a) → Rd W W.heap.size A2 (u32s d) → Calls Tryd.prog 38 #[.slice Aa a.length ca, .slice A2 d.length c2, .int .u32 (p : Int)] W (PR1 W g)) := fun W A2 c2 g hg h h2 => yGcd hpr hp fa dn hg W Aa ca A2 c2 h h2
  have t1 : ((n.length : Int) == 0) = false := bz (len_pos (by rw [hn]; exact nz))
  have Ra := Lib.hid ra
  have HB0 : Hid (Below w.heap.size w w) := Below.refl _ _
  clear ra fa hx hp hpr hma hxl hd hv hn hdm ld nz dn
  go_enter Tryd.func5, Tryd.ntmps5
  go_wp2_with (first
    | (go_at_call 11; (with_reducible refine (HG.out _).mono ?_); rintro _ w1z ⟨rfl, hb1⟩; have hx1 : Below w.heap.size w w1z := (by first | exact hb1 | exact (Below.refl _ _).drew.trans hb1); have HB1 := Lib.hid (HB0.out.trans (hx1.mono HB0.out.size)); have zR1_a := Lib.hid ((Ra.out.below hx1).mono hx1.size); clear hx1; clear Ra)
    | (go_at_call 33; (with_reducible refine (HPE.out _ (by first | exact HB1.out | exact HB1.out.drew) (by first | exact zR1_a.out | exact zR1_a.out.drewS)).mono ?_); rintro _ w2z ⟨rfl, hb2⟩; have hx2 : Below w1z.heap.size w1z w2z := (by first | exact hb2 | exact (Below.refl _ _).drew.trans hb2); have HB2 := Lib.hid (HB1.out.trans (hx2.mono HB1.out.size)); have zR2_a := Lib.hid ((zR1_a.out.below hx2).mono hx2.size); clear hx2; clear zR1_a)
    | (go_at_call 34; (with_reducible refine (HPD.out _ (by first | exact HB2.out | exact HB2.out.drew) (by first | exact zR2_a.out | exact zR2_a.out.drewS)).mono ?_); rintro _ w3z ⟨A3, c3, rfl, hr3, hb3⟩; have hx3 : Below w2z.heap.size w2z w3z := (by first | exact hb3 | exact (Below.refl _ _).drew.trans hb3); have HB3 := Lib.hid (HB2.out.trans (hx3.mono HB2.out.size)); have zR3_a := Lib.hid ((zR2_a.out.below hx3).mono hx3.size); have zR3_d := Lib.hid hr3.rd; clear hx3; clear hr3; clear zR2_a)
    | (go_at_call 35; (with_reducible refine (HPF.out _ (by first | exact HB3.out | exact HB3.out.drew) (by first | exact zR3_a.out | exact zR3_a.out.drewS)).mono ?_); rintro _ w4z ⟨gg, be, rfl, hbe, hgg, hb4⟩; have hx4 : Below w3z.heap.size w3z w4z := (by first | exact hb4 | exact (Below.refl _ _).drew.trans hb4); have HB4 := Lib.hid (HB3.out.trans (hx4.mono HB3.out.size)); have zR4_a := Lib.hid ((zR3_a.out.below hx4).mono hx4.size); have zR4_d := Lib.hid ((zR3_d.out.below hx4).mono hx4.size); have Hgg := Lib.hid hgg; clear hgg; clear hx4; clear zR3_a zR3_d)
    | (go_at_call 36; (with_reducible refine (HRD.out _ (by first | exact zR4_a.out | exact zR4_a.out.drewS)).mono ?_); rintro _ w5z ⟨_, rfl, A5, c5, rfl, hr5, hb5⟩; have hx5 : Below w4z.heap.size w4z w5z := (by first | exact hb5 | exact (Below.refl _ _).drew.trans hb5); have HB5 := Lib.hid (HB4.out.trans (hx5.mono HB4.out.size)); have zR5_a := Lib.hid ((zR4_a.out.below hx5).mono hx5.size); have zR5_d := Lib.hid ((zR4_d.out.below hx5).mono hx5.size); have zR5_d2 := Lib.hid hr5.rd; clear hx5; clear hr5; clear zR4_a zR4_d)
    | (go_at_call 37; (with_reducible refine (HRE.out _ (by first | exact zR5_a.out | exact zR5_a.out.drewS)).mono ?_); rintro _ w6z ⟨rfl, hb6⟩; have hx6 : Below w5z.heap.size w5z w6z := (by first | exact hb6 | exact (Below.refl _ _).drew.trans hb6); have HB6 := Lib.hid (HB5.out.trans (hx6.mono HB5.out.size)); have zR6_a := Lib.hid ((zR5_a.out.below hx6).mono hx6.size); have zR6_d := Lib.hid ((zR5_d.out.below hx6).mono hx6.size); have zR6_d2 := Lib.hid ((zR5_d2.out.below hx6).mono hx6.size); clear hx6; clear zR5_a zR5_d zR5_d2)
    | (go_at_call 22; (with_reducible refine (HN.out _ _).mono ?_); rintro _ w7z ⟨rfl, hb7⟩; have hx7 : Below w6z.heap.size w6z w7z := (by first | exact hb7 | exact (Below.refl _ _).drew.trans hb7); have HB7 := Lib.hid (HB6.out.trans (hx7.mono HB6.out.size)); have zR7_a := Lib.hid ((zR6_a.out.below hx7).mono hx7.size); have zR7_d := Lib.hid ((zR6_d.out.below hx7).mono hx7.size); have zR7_d2 := Lib.hid ((zR6_d2.out.below hx7).mono hx7.size); clear hx7; clear zR6_a zR6_d zR6_d2)
    | (go_at_call 21; (with_reducible refine (HT.out _ _ _ _ _ (by first | exact zR7_d.out | exact zR7_d.out.drewS) (by first | exact zR7_d2.out | exact zR7_d2.out.drewS)).mono ?_); rintro _ w8z ⟨rfl, hb8⟩; have hx8 : Below w7z.heap.size w7z w8z := (by first | exact hb8 | exact (Below.refl _ _).drew.trans hb8); have HB8 := Lib.hid (HB7.out.trans (hx8.mono HB7.out.size)); have zR8_a := Lib.hid ((zR7_a.out.below hx8).mono hx8.size); have zR8_d2 := Lib.hid ((zR7_d2.out.below hx8).mono hx8.size); clear hx8; clear zR7_a zR7_d2)
    | (go_at_call 19; (with_reducible refine (HRN.out _ (by first | exact zR8_a.out | exact zR8_a.out.drewS)).mono ?_); rintro _ w9z ⟨_, rfl, A9, c9, rfl, hr9, hb9⟩; have hx9 : Below w8z.heap.size w8z w9z := (by first | exact hb9 | exact (Below.refl _ _).drew.trans hb9); have HB9 := Lib.hid (HB8.out.trans (hx9.mono HB8.out.size)); have zR9_a := Lib.hid ((zR8_a.out.below hx9).mono hx9.size); have zR9_d2 := Lib.hid ((zR8_d2.out.below hx9).mono hx9.size); have zR9_n := Lib.hid hr9.rd; clear hx9; clear hr9; clear zR8_a zR8_d2)
    | (go_at_call 22; (with_reducible refine (HN.out _ _).mono ?_); rintro _ w10z ⟨rfl, hb10⟩; have hx10 : Below w9z.heap.size w9z w10z := (by first | exact hb10 | exact (Below.refl _ _).drew.trans hb10); have HB10 := Lib.hid (HB9.out.trans (hx10.mono HB9.out.size)); have zR10_a := Lib.hid ((zR9_a.out.below hx10).mono hx10.size); have zR10_d2 := Lib.hid ((zR9_d2.out.below hx10).mono hx10.size); clear hx10; clear zR9_a zR9_d2)
    | (go_at_call 38; (with_reducible refine (HRG.out _ _ _ _ Hgg.out (by first | exact zR10_a.out | exact zR10_a.out.drewS) (by first | exact zR10_d2.out | exact zR10_d2.out.drewS)).mono ?_); rintro _ w11z ⟨_, rfl, A11, c11, rfl, hr11, hb11⟩; have hx11 : Below w10z.heap.size w10z w11z := (by first | exact hb11 | exact (Below.refl _ _).drew.trans hb11); have HB11 := Lib.hid (HB10.out.trans (hx11.mono HB10.out.size)); have zR11_a := Lib.hid ((zR10_a.out.below hx11).mono hx11.size); have zR11_d2 := Lib.hid ((zR10_d2.out.below hx11).mono hx11.size); have zR11_g := Lib.hid hr11.rd; clear hx11; clear hr11; clear zR10_a zR10_d2)
    | (go_at_call 29; (with_reducible refine (HAW.out _ (by first | exact HB11.out | exact HB11.out.drew)).mono ?_); rintro _ w12z ⟨rfl, hb12⟩; have hx12 : Below w11z.heap.size w11z w12z := (by first | exact hb12 | exact (Below.refl _ _).drew.trans hb12); have HB12 := Lib.hid (HB11.out.trans (hx12.mono HB11.out.size)); have zR12_a := Lib.hid ((zR11_a.out.below hx12).mono hx12.size); have zR12_d2 := Lib.hid ((zR11_d2.out.below hx12).mono hx12.size); clear hx12; clear zR11_a zR11_d2))
  go_ret
  exact ⟨rfl, HB12.out⟩

theorem modpolyValues_walk (Aa : Option Addr) (ca : Nat) (a : List Nat) (x p : Nat) (w : World) (hx : Bx w) (ra : Rd w w.heap.size Aa (u32s a)) (hma : a.length ≤ 1048576) (da : ∀ x ∈ a, x < 4294967296) (hxl : x < 4294967296) (hp : p < 4294967296) :
    Calls Tryd.prog 5 #[.slice Aa a.length ca, .int .u32 (x : Int), .int .u32 (p : Int)] w fun e w' => e = .returned (.bool true) ∧ Below w.heap.size w w' := by
  by_cases hpr : Pr p
  · by_cases nz : mnP p a = []
    · exact values_zero Aa ca a x p w hx ra hma ⟨by omega, da⟩ hxl hp hpr nz
    · exact values_yes Aa ca a x p w hx ra hma ⟨by omega, da⟩ hxl hp hpr nz
  · exact values_no Aa ca a x p w hx ra hma ⟨by omega, da⟩ hxl hp hpr
end
section
open Go.RowKit

set_option maxHeartbeats 1600000 in
theorem all_zero (n g : Nat) (w : World) (hb : Blk w g 28 (List.replicate n (.int .i64 0))) (hn : n ≤ 100) :
    Calls Tryd.prog 43 #[.slice (some ⟨g, 0, none⟩) n n] w fun e w' => e = .returned (.bool true) ∧ Dr w w' := by
  have HN := Lib.hid (fun W => pnum_any 0 W)
  have hlt := hb.lt
  have Hc : Hid (∀ W i, Dr w W → i < n → W.cell? ⟨g, i, none⟩ = some (.int .i64 0)) := fun W i hd hi => by
    rw [(hb.below (hd.below w.heap.size) hlt).cell i]
    simp [hi]
  clear hb
  go_enter Tryd.func43, Tryd.ntmps43
  go_wp2
  go_loopw [7] (fun iv wr => ∃ (i : Nat), i ≤ n ∧ iv = .int .i64 (i : Int) ∧ Dr w wr) (fun iv _ => n - (intOf iv).toNat)
  case atStart => exact ⟨0, by omega, rfl, Dr.refl _⟩
  case round =>
    obtain ⟨i, hi, rfl, hd⟩ := hrel
    by_cases hil : i < n
    · have hc := Hc.out wr i hd hil
      go_wp2_with (go_at_call 22; (with_reducible refine (HN.out _).mono ?_); rintro _ _ ⟨rfl, rfl⟩)
      go_roundw
      case rel => exact ⟨i + 1, by omega, by go_num, hd⟩
      case measure => simp [intOf]; omega
    · go_wp2
      go_ret
      exact ⟨rfl, hd⟩
end
section
open Go.RowKit

theorem dv_zero {p : Nat} (hp : Pr p) {X : Z} {g q r : List Nat} (hg : Nf p g) (h : Dv p X (zo g) g.length q r) (hd : Dd p (zo g) X) (ng : g ≠ []) : r = [] := by
  obtain ⟨u, hu⟩ := hd
  obtain ⟨q', h1, h2⟩ := nf_of hp.pos u
  refine (Dv.unique hp hg h ⟨h1, Nf.nil_ p, len_pos ng, hu.trans (((h2.symm.mul (Cg.refl (zo g)))).trans (Cg.of_eq fun x => ?_))⟩ (Cg.refl X)).2
  rw [Z.v_add, zo_nil]; omega
theorem gc_len {p : Nat} (hp : Pr p) {a b g : List Nat} (ha : Nf p a) (hb : Nf p b) (h : Gc p (zo a) (zo b) g) : g.length ≤ a.length + b.length := by
  by_cases na : a = []
  · by_cases nb : b = []
    · subst na nb
      obtain ⟨s, t, hl⟩ := h.lin
      have := h.nf.of_zero hp.pos (hl.trans (Cg.of_eq fun x => by simp only [Z.v_add, Z.v_mul, Z.v_c, zo_nil]; omega))
      simp [this]
    · have := (Dd.len hp hb h.nf h.right nb).2; omega
  · have := (Dd.len hp ha h.nf h.left na).2; omega
theorem gc_some {p : Nat} (hp : Pr p) {a b g : List Nat} (hb : Nf p b) (h : Gc p (zo a) (zo b) g) (nb : b ≠ []) : g ≠ [] := (Dd.len hp hb h.nf h.right nb).1
theorem len_times {p : Nat} (hp : 0 < p) {a b s : List Nat} (hn : Nf p s) (h : Cg p (zo s) (zo a * zo b)) : s.length ≤ a.length + b.length := hn.len_le hp h fun i hi => by
  rw [co_mul, cN_low' (by omega)]; exact Int.dvd_zero _
/-- What Bezout told makes the divisor. -/
theorem Bzt.sum {p : Nat} {a b g s t sa tb : List Nat} (h : Bzt p (mnP p a) (mnP p b) g s t) (hs : Cg p (zo sa) (zo s * zo a)) (ht : Cg p (zo tb) (zo t * zo b)) : Cg p (zo g) (zo sa + zo tb) :=
  h.eq.symm.trans (((((Cg.refl (zo s)).mul (mnP_cg p a)).trans hs.symm)).add (((Cg.refl (zo t)).mul (mnP_cg p b)).trans ht.symm))
/-- What division told makes what was divided. -/
theorem Dv.back {p : Nat} {a b q r qb : List Nat} {n : Nat} (h : Dv p (zo (mnP p a)) (zo (mnP p b)) n q r) (hq : Cg p (zo qb) (zo q * zo b)) : Cg p (zo (mnP p a)) (zo qb + zo r) :=
  h.eq.trans ((((Cg.refl (zo q)).mul (mnP_cg p b)).trans hq.symm).add (Cg.refl (zo r)))
theorem nf_prod {p : Nat} (hp : Pr p) {a b : List Nat} : ∃ s, Nf p s ∧ Cg p (zo s) (zo a * zo b) ∧ s.length ≤ a.length + b.length := by
  obtain ⟨s, h1, h2⟩ := nf_of hp.pos (zo a * zo b)
  exact ⟨s, h1, h2, len_times hp.pos h1 h2⟩

set_option maxRecDepth 20000 in
set_option maxHeartbeats 3200000 in
theorem makes_no (Aa Ab : Option Addr) (ca cb : Nat) (a b : List Nat) (p : Nat) (w : World) (hx : Bx w) (ra : Rd w w.heap.size Aa (u32s a)) (rb : Rd w w.heap.size Ab (u32s b)) (_ : a.length ≤ 1048576) (_ : b.length ≤ 1048576) (_ : Fit a) (_ : Fit b) (hp : p < 4294967296) (hpr : ¬ Pr p) :
    Calls Tryd.prog 7 #[.slice Aa a.length ca, .slice Ab b.length cb, .int .u32 (p : Int)] w fun e w' => e = .returned (.bool true) ∧ Below w.heap.size w w' := by
  have HX : Hid (∀ W, Below w.heap.size w W → Bx W) := fun W hW => hx.below hW (Nat.le_refl _)
  have HAW : Hid (∀ W, Below w.heap.size w W → Calls Tryd.prog 29 #[] W fun e w' => e = .returned (.bool true) ∧ Below W.heap.size W w') := fun W hW => lawake_any W (HX.out W hW)
  have HN : Hid (∀ k W, Calls Tryd.prog 22 #[.int .i64 k] W fun e w' => e = .returned (.int .i64 k) ∧ Below W.heap.size W w') := fun k W => (pnum_any k W).mono fun _ _ h => ⟨h.1, h.2 ▸ Below.refl _ _⟩
  have HIS : Hid (∀ W, Calls Tryd.prog 41 #[.int .u32 (p : Int)] W fun e w' => e = .returned (.bool false) ∧ Below W.heap.size W w') := fun W => (ris_no p hpr hp W).mono fun _ _ h => ⟨h.1, h.2 ▸ Below.refl _ _⟩
  have Ra := Lib.hid ra
  have Rb := Lib.hid rb
  have HB0 : Hid (Below w.heap.size w w) := Below.refl _ _
  clear ra rb hx hp hpr
  go_enter Tryd.func7, Tryd.ntmps7
  go_wp2_with (first
    | (go_at_call 41; (with_reducible refine (HIS.out _).mono ?_); rintro _ w1z ⟨rfl, hb1⟩; have hx1 : Below w.heap.size w w1z := (by first | exact hb1 | exact (Below.refl _ _).drew.trans hb1); have HB1 := Lib.hid (HB0.out.trans (hx1.mono HB0.out.size)); clear hx1)
    | (go_at_call 29; (with_reducible refine (HAW.out _ (by first | exact HB1.out | exact HB1.out.drew)).mono ?_); rintro _ w2z ⟨rfl, hb2⟩; have hx2 : Below w1z.heap.size w1z w2z := (by first | exact hb2 | exact (Below.refl _ _).drew.trans hb2); have HB2 := Lib.hid (HB1.out.trans (hx2.mono HB1.out.size)); clear hx2))
  go_ret
  exact ⟨rfl, HB2.out⟩

set_option maxRecDepth 20000 in
set_option maxHeartbeats 3200000 in
theorem makes_zero (Aa Ab : Option Addr) (ca cb : Nat) (a b : List Nat) (p : Nat) (w : World) (hx : Bx w) (ra : Rd w w.heap.size Aa (u32s a)) (rb : Rd w w.heap.size Ab (u32s b)) (hma : a.length ≤ 1048576) (hmb : b.length ≤ 1048576) (fa : Fit a) (fb : Fit b) (hp : p < 4294967296) (hpr : Pr p) (nz : mnP p b = []) :
    Calls Tryd.prog 7 #[.slice Aa a.length ca, .slice Ab b.length cb, .int .u32 (p : Int)] w fun e w' => e = .returned (.bool true) ∧ Below w.heap.size w w' := by
  have HX : Hid (∀ W, Below w.heap.size w W → Bx W) := fun W hW => hx.below hW (Nat.le_refl _)
  have HAW : Hid (∀ W, Below w.heap.size w W → Calls Tryd.prog 29 #[] W fun e w' => e = .returned (.bool true) ∧ Below W.heap.size W w') := fun W hW => lawake_any W (HX.out W hW)
  have HN : Hid (∀ k W, Calls Tryd.prog 22 #[.int .i64 k] W fun e w' => e = .returned (.int .i64 k) ∧ Below W.heap.size W w') := fun k W => (pnum_any k W).mono fun _ _ h => ⟨h.1, h.2 ▸ Below.refl _ _⟩
  have HIS : Hid (∀ W, Calls Tryd.prog 41 #[.int .u32 (p : Int)] W fun e w' => e = .returned (.bool true) ∧ Below W.heap.size W w') := fun W => (ris_yes p hpr hp W).mono fun _ _ h => ⟨h.1, h.2 ▸ Below.refl _ _⟩
  have HMUL : Hid (∀ W A1 c1 (xs : List Nat) A2 c2 (ys s : List Nat), Below w.heap.size w W → Rd W W.heap.size A1 (u32s xs) → Rd W W.heap.size A2 (u32s ys) → Fit xs → Fit ys → Nf p s → Cg p (zo s) (zo xs * zo ys) → Calls Tryd.prog 18 #[.slice A1 xs.length c1, .slice A2 ys.length c2, .int .u32 (p : Int)] W (PE W s)) := fun W A1 c1 xs A2 c2 ys s hW h1 h2 f1 f2 hn hc => xMul hpr hp f1 f2 hn hc W A1 c1 A2 c2 (HX.out W hW).bases h1 h2
  have HADD : Hid (∀ W A1 c1 (xs : List Nat) A2 c2 (ys s : List Nat), Below w.heap.size w W → Rd W W.heap.size A1 (u32s xs) → Rd W W.heap.size A2 (u32s ys) → Fit xs → Fit ys → Nf p s → Cg p (zo s) (zo xs + zo ys) → Calls Tryd.prog 16 #[.slice A1 xs.length c1, .slice A2 ys.length c2, .int .u32 (p : Int)] W (PE W s)) := fun W A1 c1 xs A2 c2 ys s hW h1 h2 f1 f2 hn hc => xAdd hpr hp f1 f2 hn hc W A1 c1 A2 c2 (HX.out W hW).bases h1 h2
  have HBZ : Hid (∀ W, Below w.heap.size w W → Rd W W.heap.size Aa (u32s a) → Rd W W.heap.size Ab (u32s b) → Calls Tryd.prog 42 #[.slice Aa a.length ca, .slice Ab b.length cb, .int .u32 (p : Int)] W fun e w' => ∃ g s t vg vs vt, e = .returned (.tuple #[vg, vs, vt, .int .i64 0]) ∧ PR W w' vg g ∧ PR W w' vs s ∧ PR W w' vt t ∧ Bzt p (mnP p a) (mnP p b) g s t) := fun W hW h1 h2 => pBezoutZ_yes Aa ca a Ab cb b p W _ hpr hp (HX.out W hW).bases (Nat.le_refl _) h1 fa.1 fa.2 h2 fb.1 fb.2 nz
  have HDV : Hid (∀ W A1 c1 (xs : List Nat) A2 c2 (ys : List Nat), Below w.heap.size w W → Rd W W.heap.size A1 (u32s xs) → Rd W W.heap.size A2 (u32s ys) → Fit xs → Fit ys → mnP p ys ≠ [] → Calls Tryd.prog 44 #[.slice A1 xs.length c1, .slice A2 ys.length c2, .int .u32 (p : Int)] W fun e w' => ∃ q r vq vr, e = .returned (.tuple #[vq, vr, .int .i64 0]) ∧ PR W w' vq q ∧ PR W w' vr r ∧ Dv p (zo (mnP p xs)) (zo (mnP p ys)) (mnP p ys).length q r) := fun W A1 c1 xs A2 c2 ys hW h1 h2 f1 f2 hn => pDiv_yes A1 c1 xs A2 c2 ys p W _ hpr hp (HX.out W hW).bases (Nat.le_refl _) h1 f1.1 f1.2 h2 f2.1 f2.2 hn
  have HAL : Hid (∀ n W, n ≤ 100 → Calls Tryd.prog 43 #[.slice (some ⟨W.heap.size, 0, none⟩) n n] (W.alloc (.cells (List.replicate n (.int .i64 0)).toArray 28)) fun e w' => e = .returned (.bool true) ∧ Below W.heap.size W w') := fun n W hn => (all_zero n W.heap.size _ (Blk.new_ rfl) hn).mono fun _ _ h => ⟨h.1, ((Below.refl _ _).alloc (Nat.le_refl _) _).trans (h.2.below _)⟩
  have HA4 : Hid (∀ W, Calls Tryd.prog 43 #[.slice (some ⟨W.heap.size, 0, none⟩) 4 4] (W.alloc (.cells #[.int .i64 0, .int .i64 0, .int .i64 0, .int .i64 0] 28)) fun e w' => e = .returned (.bool true) ∧ Below W.heap.size W w') := fun W => HAL.out 4 W (by decide)
  have HA2 : Hid (∀ W, Calls Tryd.prog 43 #[.slice (some ⟨W.heap.size, 0, none⟩) 2 2] (W.alloc (.cells #[.int .i64 0, .int .i64 0] 28)) fun e w' => e = .returned (.bool true) ∧ Below W.heap.size W w') := fun W => HAL.out 2 W (by decide)
  have HSM : Hid (∀ W A1 c1 A2 c2 (xs : List Nat), xs.length ≤ 281474976710656 → Rd W W.heap.size A1 (u32s xs) → Rd W W.heap.size A2 (u32s xs) → Calls Tryd.prog 28 #[.slice A1 xs.length c1, .slice A2 xs.length c2] W fun e w' => e = .returned (.bool true) ∧ Below W.heap.size W w') := fun W A1 c1 A2 c2 xs hl h1 h2 => (psame_any A1 A2 c1 c2 xs xs W _ h1 h2 hl).mono fun _ _ h => ⟨by rw [h.1]; simp, h.2.below _⟩
  have hpos := hpr.pos
  obtain ⟨na, hna⟩ : ∃ na, na = mnP p a := ⟨_, rfl⟩
  obtain ⟨nb, hnb⟩ : ∃ nb, nb = mnP p b := ⟨_, rfl⟩
  have lna : na.length ≤ 1048576 := by have := mnP_len p a; rw [← hna] at this; omega
  have lnb : nb.length ≤ 1048576 := by have := mnP_len p b; rw [← hnb] at this; omega
  have HRNa : Hid (∀ W, Rd W W.heap.size Aa (u32s a) → Calls Tryd.prog 19 #[.slice Aa a.length ca, .int .u32 (p : Int)] W (PR1 W na)) := fun W h => by rw [hna]; exact yNorm hpr hp fa W Aa ca h
  have HRNb : Hid (∀ W, Rd W W.heap.size Ab (u32s b) → Calls Tryd.prog 19 #[.slice Ab b.length cb, .int .u32 (p : Int)] W (PR1 W nb)) := fun W h => by rw [hnb]; exact yNorm hpr hp fb W Ab cb h
  have Nna : Nf p na := by rw [hna]; exact mnP_nf hpos a
  have Nnb : Nf p nb := by rw [hnb]; exact mnP_nf hpos b
  have HI : Hid (∀ g s t, Bzt p (mnP p a) (mnP p b) g s t → Nf p g ∧ Fit g ∧ Fit s ∧ Fit t ∧ g.length ≤ 2097152 ∧ s.length ≤ 3000000 ∧ t.length ≤ 5000000 ∧ (g ≠ [] → mnP p g ≠ []) ∧ (nb ≠ [] → g ≠ []) ∧ (∀ q r, g ≠ [] → Dv p (zo (mnP p a)) (zo (mnP p g)) (mnP p g).length q r → r = []) ∧ (∀ q r, g ≠ [] → Dv p (zo (mnP p b)) (zo (mnP p g)) (mnP p g).length q r → r = [])) := fun g s t h => by
    have h' := h
    rw [← hna, ← hnb] at h'
    have l1 := gc_len hpr Nna Nnb h'.gc
    have l2 := h'.ls
    have l3 := h'.lt
    have e := mnP_id h.gc.nf
    refine ⟨h.gc.nf, .nf h.gc.nf hp (by omega), .nf h.ns hp (by omega), .nf h.nt hp (by omega), by omega, by omega, by omega, fun hg => by rw [e]; exact hg, fun hn => gc_some hpr Nnb h'.gc hn, fun q r hg hd => ?_, fun q r hg hd => ?_⟩
    · rw [e] at hd; exact dv_zero hpr h.gc.nf hd h.gc.left hg
    · rw [e] at hd; exact dv_zero hpr h.gc.nf hd h.gc.right hg
  have HPR : Hid (∀ xs ys : List Nat, Fit xs → Fit ys → xs.length + ys.length ≤ 20000000 → ∃ s, Nf p s ∧ Cg p (zo s) (zo xs * zo ys) ∧ Fit s ∧ s.length ≤ xs.length + ys.length) := fun xs ys _ _ hl => by
    obtain ⟨s, h1, h2, h3⟩ := nf_prod hpr (a := xs) (b := ys)
    exact ⟨s, h1, h2, .nf h1 hp (by omega), h3⟩
  have Fa := Lib.hid fa
  have Fb := Lib.hid fb
  have Lma := Lib.hid hma
  have Lmb := Lib.hid hmb
  have HSU : Hid (∀ g s t sa tb, Bzt p (mnP p a) (mnP p b) g s t → Cg p (zo sa) (zo s * zo a) → Cg p (zo tb) (zo t * zo b) → Cg p (zo g) (zo sa + zo tb)) := fun g s t sa tb h h1 h2 => h.sum h1 h2
  have hnb0 : nb = [] := by rw [hnb]; exact nz
  have HDZ : Hid (∀ W, Below w.heap.size w W → Rd W W.heap.size Aa (u32s a) → Rd W W.heap.size Ab (u32s b) → Calls Tryd.prog 44 #[.slice Aa a.length ca, .slice Ab b.length cb, .int .u32 (p : Int)] W fun e w' => e = .returned (.tuple #[.slice none 0 0, .slice none 0 0, .int .i64 70]) ∧ Below W.heap.size W w') := fun W hW h1 h2 => pDivZ_yes Aa ca a Ab cb b p W _ hpr hp (HX.out W hW).bases (Nat.le_refl _) h1 fa.1 fa.2 h2 fb.1 fb.2 nz
  have t1 : ((nb.length : Int) == 0) = true := by rw [hnb0]; rfl
  have Ra := Lib.hid ra
  have Rb := Lib.hid rb
  have HB0 : Hid (Below w.heap.size w w) := Below.refl _ _
  clear ra rb hx hnb0 nz hna hnb lna lnb Nna Nnb hpos hpr hp fa fb hma hmb
  go_enter Tryd.func7, Tryd.ntmps7
  go_upto_region 9 with (first
    | (go_at_call 41; (with_reducible refine (HIS.out _).mono ?_); rintro _ w1z ⟨rfl, hb1⟩; have hx1 : Below w.heap.size w w1z := (by first | exact hb1 | exact (Below.refl _ _).drew.trans hb1); have HB1 := Lib.hid (HB0.out.trans (hx1.mono HB0.out.size)); have zR1_a := Lib.hid ((Ra.out.below hx1).mono hx1.size); have zR1_b := Lib.hid ((Rb.out.below hx1).mono hx1.size); clear hx1; clear Ra Rb)
    | (go_at_call 42; (with_reducible refine (HBZ.out _ (by first | exact HB1.out | exact HB1.out.drew) (by first | exact zR1_a.out | exact zR1_a.out.drewS) (by first | exact zR1_b.out | exact zR1_b.out.drewS)).mono ?_); rintro _ w2z ⟨g, s, t, _, _, _, rfl, ⟨Ag, cg, rfl, hg2, hb2⟩, ⟨As, cs, rfl, hs2, _⟩, ⟨At, ct, rfl, ht2, _⟩, hbz⟩; have hx2 : Below w1z.heap.size w1z w2z := (by first | exact hb2 | exact (Below.refl _ _).drew.trans hb2); have HB2 := Lib.hid (HB1.out.trans (hx2.mono HB1.out.size)); have zR2_a := Lib.hid ((zR1_a.out.below hx2).mono hx2.size); have zR2_b := Lib.hid ((zR1_b.out.below hx2).mono hx2.size); obtain ⟨hng, hfg, hfs, hft, hlg, hls, hlt, hgm, hbg, hra, hrb⟩ := HI.out g s t hbz; obtain ⟨sa, hsan, hsac, hsaf, hsal⟩ := HPR.out s a hfs Fa.out (by have := Lma.out; omega); obtain ⟨tb, htbn, htbc, htbf, htbl⟩ := HPR.out t b hft Fb.out (by have := Lmb.out; omega); have HSC := Lib.hid (HSU.out g s t sa tb hbz hsac htbc); have Hng := Lib.hid hng; have Ffg := Lib.hid hfg; have Ffs := Lib.hid hfs; have Fft := Lib.hid hft; have Hlg : Hid (g.length ≤ 281474976710656) := (by show _ ≤ _; omega); have Hgm := Lib.hid hgm; have Hbg := Lib.hid hbg; have Hra := Lib.hid hra; have Hrb := Lib.hid hrb; have Hsan := Lib.hid hsan; have Hsac := Lib.hid hsac; have Hsaf := Lib.hid hsaf; have Htbn := Lib.hid htbn; have Htbc := Lib.hid htbc; have Htbf := Lib.hid htbf; have zR_g := Lib.hid hg2.rd; have zR_s := Lib.hid hs2.rd; have zR_t := Lib.hid ht2.rd; clear hbz hng hfg hfs hft hlg hls hlt hgm hbg hra hrb hsan hsac hsaf hsal htbn htbc htbf htbl hg2 hs2 ht2; clear hx2; clear zR1_a zR1_b)
    | (go_at_call 18; (with_reducible refine (HMUL.out _ _ _ _ _ _ _ _ (by first | exact HB2.out | exact HB2.out.drew) (by first | exact zR_s.out | exact zR_s.out.drewS) (by first | exact zR2_a.out | exact zR2_a.out.drewS) Ffs.out Fa.out Hsan.out Hsac.out).mono ?_); rintro _ w3z ⟨A3, c3, rfl, hr3, hb3⟩; have hx3 : Below w2z.heap.size w2z w3z := (by first | exact hb3 | exact (Below.refl _ _).drew.trans hb3); have HB3 := Lib.hid (HB2.out.trans (hx3.mono HB2.out.size)); have zR3_a := Lib.hid ((zR2_a.out.below hx3).mono hx3.size); have zR3_b := Lib.hid ((zR2_b.out.below hx3).mono hx3.size); have zR3_g := Lib.hid ((zR_g.out.below hx3).mono hx3.size); have zR3_t := Lib.hid ((zR_t.out.below hx3).mono hx3.size); have zR3_sa := Lib.hid hr3.rd; clear hx3; clear hr3; clear zR2_a zR2_b zR_g zR_t)
    | (go_at_call 18; (with_reducible refine (HMUL.out _ _ _ _ _ _ _ _ (by first | exact HB3.out | exact HB3.out.drew) (by first | exact zR3_t.out | exact zR3_t.out.drewS) (by first | exact zR3_b.out | exact zR3_b.out.drewS) Fft.out Fb.out Htbn.out Htbc.out).mono ?_); rintro _ w4z ⟨A4, c4, rfl, hr4, hb4⟩; have hx4 : Below w3z.heap.size w3z w4z := (by first | exact hb4 | exact (Below.refl _ _).drew.trans hb4); have HB4 := Lib.hid (HB3.out.trans (hx4.mono HB3.out.size)); have zR4_a := Lib.hid ((zR3_a.out.below hx4).mono hx4.size); have zR4_b := Lib.hid ((zR3_b.out.below hx4).mono hx4.size); have zR4_g := Lib.hid ((zR3_g.out.below hx4).mono hx4.size); have zR4_sa := Lib.hid ((zR3_sa.out.below hx4).mono hx4.size); have zR4_tb := Lib.hid hr4.rd; clear hx4; clear hr4; clear zR3_a zR3_b zR3_g zR3_sa)
    | (go_at_call 16; (with_reducible refine (HADD.out _ _ _ _ _ _ _ _ (by first | exact HB4.out | exact HB4.out.drew) (by first | exact zR4_sa.out | exact zR4_sa.out.drewS) (by first | exact zR4_tb.out | exact zR4_tb.out.drewS) Hsaf.out Htbf.out Hng.out HSC.out).mono ?_); rintro _ w5z ⟨A5, c5, rfl, hr5, hb5⟩; have hx5 : Below w4z.heap.size w4z w5z := (by first | exact hb5 | exact (Below.refl _ _).drew.trans hb5); have HB5 := Lib.hid (HB4.out.trans (hx5.mono HB4.out.size)); have zR5_a := Lib.hid ((zR4_a.out.below hx5).mono hx5.size); have zR5_b := Lib.hid ((zR4_b.out.below hx5).mono hx5.size); have zR5_g := Lib.hid ((zR4_g.out.below hx5).mono hx5.size); have zR5_su := Lib.hid hr5.rd; clear hx5; clear hr5; clear zR4_a zR4_b zR4_g)
    | (go_at_call 43; (with_reducible refine (HA4.out _).mono ?_); rintro _ w6z ⟨rfl, hb6⟩; have hx6 : Below w5z.heap.size w5z w6z := (by first | exact hb6 | exact (Below.refl _ _).drew.trans hb6); have HB6 := Lib.hid (HB5.out.trans (hx6.mono HB5.out.size)); have zR6_a := Lib.hid ((zR5_a.out.below hx6).mono hx6.size); have zR6_b := Lib.hid ((zR5_b.out.below hx6).mono hx6.size); have zR6_g := Lib.hid ((zR5_g.out.below hx6).mono hx6.size); have zR6_su := Lib.hid ((zR5_su.out.below hx6).mono hx6.size); clear hx6; clear zR5_a zR5_b zR5_g zR5_su)
    | (go_at_call 28; (with_reducible refine (HSM.out _ _ _ _ _ _ Hlg.out (by first | exact zR6_su.out | exact zR6_su.out.drewS) (by first | exact zR6_g.out | exact zR6_g.out.drewS)).mono ?_); rintro _ w7z ⟨rfl, hb7⟩; have hx7 : Below w6z.heap.size w6z w7z := (by first | exact hb7 | exact (Below.refl _ _).drew.trans hb7); have HB7 := Lib.hid (HB6.out.trans (hx7.mono HB6.out.size)); have zR7_a := Lib.hid ((zR6_a.out.below hx7).mono hx7.size); have zR7_b := Lib.hid ((zR6_b.out.below hx7).mono hx7.size); have zR7_g := Lib.hid ((zR6_g.out.below hx7).mono hx7.size); have zR7_su := Lib.hid ((zR6_su.out.below hx7).mono hx7.size); clear hx7; clear zR6_a zR6_b zR6_g zR6_su))
  by_cases hg0 : g = []
  · have z1 : ¬ ((0 : Int) < (g.length : Int)) := by rw [hg0]; simp
    clear hg0
    go_wp2_with (first
      | (go_at_call 44; (with_reducible refine (HDZ.out _ (by first | exact HB7.out | exact HB7.out.drew) (by first | exact zR7_a.out | exact zR7_a.out.drewS) (by first | exact zR7_b.out | exact zR7_b.out.drewS)).mono ?_); rintro _ w8z ⟨rfl, hb8⟩; have hx8 : Below w7z.heap.size w7z w8z := (by first | exact hb8 | exact (Below.refl _ _).drew.trans hb8); have HB8 := Lib.hid (HB7.out.trans (hx8.mono HB7.out.size)); have zR8_a := Lib.hid ((zR7_a.out.below hx8).mono hx8.size); have zR8_b := Lib.hid ((zR7_b.out.below hx8).mono hx8.size); clear hx8; clear zR7_a zR7_b)
      | (go_at_call 22; (with_reducible refine (HN.out _ _).mono ?_); rintro _ w9z ⟨rfl, hb9⟩; have hx9 : Below w8z.heap.size w8z w9z := (by first | exact hb9 | exact (Below.refl _ _).drew.trans hb9); have HB9 := Lib.hid (HB8.out.trans (hx9.mono HB8.out.size)); have zR9_a := Lib.hid ((zR8_a.out.below hx9).mono hx9.size); have zR9_b := Lib.hid ((zR8_b.out.below hx9).mono hx9.size); clear hx9; clear zR8_a zR8_b)
      | (go_at_call 19; (with_reducible refine (HRNb.out _ (by first | exact zR9_b.out | exact zR9_b.out.drewS)).mono ?_); rintro _ w10z ⟨_, rfl, A10, c10, rfl, hr10, hb10⟩; have hx10 : Below w9z.heap.size w9z w10z := (by first | exact hb10 | exact (Below.refl _ _).drew.trans hb10); have HB10 := Lib.hid (HB9.out.trans (hx10.mono HB9.out.size)); have zR10_a := Lib.hid ((zR9_a.out.below hx10).mono hx10.size); have zR10_b := Lib.hid ((zR9_b.out.below hx10).mono hx10.size); have zR10_nb := Lib.hid hr10.rd; clear hx10; clear hr10; clear zR9_a zR9_b)
      | (go_at_call 29; (with_reducible refine (HAW.out _ (by first | exact HB10.out | exact HB10.out.drew)).mono ?_); rintro _ w11z ⟨rfl, hb11⟩; have hx11 : Below w10z.heap.size w10z w11z := (by first | exact hb11 | exact (Below.refl _ _).drew.trans hb11); have HB11 := Lib.hid (HB10.out.trans (hx11.mono HB10.out.size)); have zR11_a := Lib.hid ((zR10_a.out.below hx11).mono hx11.size); have zR11_b := Lib.hid ((zR10_b.out.below hx11).mono hx11.size); clear hx11; clear zR10_a zR10_b))
    go_ret
    exact ⟨rfl, HB11.out⟩
  · have z1 : (0 : Int) < (g.length : Int) := by have := len_pos hg0; omega
    have hg0 := Lib.hid hg0
    go_wp2_with (first
      | (go_at_call 44; (with_reducible refine (HDV.out _ _ _ _ _ _ _ (by first | exact HB7.out | exact HB7.out.drew) (by first | exact zR7_a.out | exact zR7_a.out.drewS) (by first | exact zR7_g.out | exact zR7_g.out.drewS) Fa.out Ffg.out (Hgm.out hg0.out)).mono ?_); rintro _ w8z ⟨q1, r1, _, _, rfl, ⟨Aq1, cq1, rfl, _, _⟩, ⟨Ar1, cr1, rfl, _, hb8⟩, hdv⟩; have hx8 : Below w7z.heap.size w7z w8z := (by first | exact hb8 | exact (Below.refl _ _).drew.trans hb8); have HB8 := Lib.hid (HB7.out.trans (hx8.mono HB7.out.size)); have zR8_a := Lib.hid ((zR7_a.out.below hx8).mono hx8.size); have zR8_b := Lib.hid ((zR7_b.out.below hx8).mono hx8.size); have zR8_g := Lib.hid ((zR7_g.out.below hx8).mono hx8.size); obtain rfl := Hra.out _ _ hg0.out hdv; clear hdv; clear hx8; clear zR7_a zR7_b zR7_g)
      | (go_at_call 44; (with_reducible refine (HDV.out _ _ _ _ _ _ _ (by first | exact HB8.out | exact HB8.out.drew) (by first | exact zR8_b.out | exact zR8_b.out.drewS) (by first | exact zR8_g.out | exact zR8_g.out.drewS) Fb.out Ffg.out (Hgm.out hg0.out)).mono ?_); rintro _ w9z ⟨q2, r2, _, _, rfl, ⟨Aq2, cq2, rfl, _, _⟩, ⟨Ar2, cr2, rfl, _, hb9⟩, hdv⟩; have hx9 : Below w8z.heap.size w8z w9z := (by first | exact hb9 | exact (Below.refl _ _).drew.trans hb9); have HB9 := Lib.hid (HB8.out.trans (hx9.mono HB8.out.size)); have zR9_a := Lib.hid ((zR8_a.out.below hx9).mono hx9.size); have zR9_b := Lib.hid ((zR8_b.out.below hx9).mono hx9.size); have zR9_g := Lib.hid ((zR8_g.out.below hx9).mono hx9.size); obtain rfl := Hrb.out _ _ hg0.out hdv; clear hdv; clear hx9; clear zR8_a zR8_b zR8_g)
      | (go_at_call 43; (with_reducible refine (HA2.out _).mono ?_); rintro _ w10z ⟨rfl, hb10⟩; have hx10 : Below w9z.heap.size w9z w10z := (by first | exact hb10 | exact (Below.refl _ _).drew.trans hb10); have HB10 := Lib.hid (HB9.out.trans (hx10.mono HB9.out.size)); have zR10_a := Lib.hid ((zR9_a.out.below hx10).mono hx10.size); have zR10_b := Lib.hid ((zR9_b.out.below hx10).mono hx10.size); have zR10_g := Lib.hid ((zR9_g.out.below hx10).mono hx10.size); clear hx10; clear zR9_a zR9_b zR9_g)
      | (go_at_call 44; (with_reducible refine (HDZ.out _ (by first | exact HB10.out | exact HB10.out.drew) (by first | exact zR10_a.out | exact zR10_a.out.drewS) (by first | exact zR10_b.out | exact zR10_b.out.drewS)).mono ?_); rintro _ w11z ⟨rfl, hb11⟩; have hx11 : Below w10z.heap.size w10z w11z := (by first | exact hb11 | exact (Below.refl _ _).drew.trans hb11); have HB11 := Lib.hid (HB10.out.trans (hx11.mono HB10.out.size)); have zR11_a := Lib.hid ((zR10_a.out.below hx11).mono hx11.size); have zR11_b := Lib.hid ((zR10_b.out.below hx11).mono hx11.size); clear hx11; clear zR10_a zR10_b)
      | (go_at_call 22; (with_reducible refine (HN.out _ _).mono ?_); rintro _ w12z ⟨rfl, hb12⟩; have hx12 : Below w11z.heap.size w11z w12z := (by first | exact hb12 | exact (Below.refl _ _).drew.trans hb12); have HB12 := Lib.hid (HB11.out.trans (hx12.mono HB11.out.size)); have zR12_a := Lib.hid ((zR11_a.out.below hx12).mono hx12.size); have zR12_b := Lib.hid ((zR11_b.out.below hx12).mono hx12.size); clear hx12; clear zR11_a zR11_b)
      | (go_at_call 19; (with_reducible refine (HRNb.out _ (by first | exact zR12_b.out | exact zR12_b.out.drewS)).mono ?_); rintro _ w13z ⟨_, rfl, A13, c13, rfl, hr13, hb13⟩; have hx13 : Below w12z.heap.size w12z w13z := (by first | exact hb13 | exact (Below.refl _ _).drew.trans hb13); have HB13 := Lib.hid (HB12.out.trans (hx13.mono HB12.out.size)); have zR13_a := Lib.hid ((zR12_a.out.below hx13).mono hx13.size); have zR13_b := Lib.hid ((zR12_b.out.below hx13).mono hx13.size); have zR13_nb := Lib.hid hr13.rd; clear hx13; clear hr13; clear zR12_a zR12_b)
      | (go_at_call 29; (with_reducible refine (HAW.out _ (by first | exact HB13.out | exact HB13.out.drew)).mono ?_); rintro _ w14z ⟨rfl, hb14⟩; have hx14 : Below w13z.heap.size w13z w14z := (by first | exact hb14 | exact (Below.refl _ _).drew.trans hb14); have HB14 := Lib.hid (HB13.out.trans (hx14.mono HB13.out.size)); have zR14_a := Lib.hid ((zR13_a.out.below hx14).mono hx14.size); have zR14_b := Lib.hid ((zR13_b.out.below hx14).mono hx14.size); clear hx14; clear zR13_a zR13_b))
    go_ret
    exact ⟨rfl, HB14.out⟩

set_option maxRecDepth 20000 in
set_option maxHeartbeats 3200000 in
theorem makes_yes (Aa Ab : Option Addr) (ca cb : Nat) (a b : List Nat) (p : Nat) (w : World) (hx : Bx w) (ra : Rd w w.heap.size Aa (u32s a)) (rb : Rd w w.heap.size Ab (u32s b)) (hma : a.length ≤ 1048576) (hmb : b.length ≤ 1048576) (fa : Fit a) (fb : Fit b) (hp : p < 4294967296) (hpr : Pr p) (nz : mnP p b ≠ []) :
    Calls Tryd.prog 7 #[.slice Aa a.length ca, .slice Ab b.length cb, .int .u32 (p : Int)] w fun e w' => e = .returned (.bool true) ∧ Below w.heap.size w w' := by
  have HX : Hid (∀ W, Below w.heap.size w W → Bx W) := fun W hW => hx.below hW (Nat.le_refl _)
  have HAW : Hid (∀ W, Below w.heap.size w W → Calls Tryd.prog 29 #[] W fun e w' => e = .returned (.bool true) ∧ Below W.heap.size W w') := fun W hW => lawake_any W (HX.out W hW)
  have HN : Hid (∀ k W, Calls Tryd.prog 22 #[.int .i64 k] W fun e w' => e = .returned (.int .i64 k) ∧ Below W.heap.size W w') := fun k W => (pnum_any k W).mono fun _ _ h => ⟨h.1, h.2 ▸ Below.refl _ _⟩
  have HIS : Hid (∀ W, Calls Tryd.prog 41 #[.int .u32 (p : Int)] W fun e w' => e = .returned (.bool true) ∧ Below W.heap.size W w') := fun W => (ris_yes p hpr hp W).mono fun _ _ h => ⟨h.1, h.2 ▸ Below.refl _ _⟩
  have HMUL : Hid (∀ W A1 c1 (xs : List Nat) A2 c2 (ys s : List Nat), Below w.heap.size w W → Rd W W.heap.size A1 (u32s xs) → Rd W W.heap.size A2 (u32s ys) → Fit xs → Fit ys → Nf p s → Cg p (zo s) (zo xs * zo ys) → Calls Tryd.prog 18 #[.slice A1 xs.length c1, .slice A2 ys.length c2, .int .u32 (p : Int)] W (PE W s)) := fun W A1 c1 xs A2 c2 ys s hW h1 h2 f1 f2 hn hc => xMul hpr hp f1 f2 hn hc W A1 c1 A2 c2 (HX.out W hW).bases h1 h2
  have HADD : Hid (∀ W A1 c1 (xs : List Nat) A2 c2 (ys s : List Nat), Below w.heap.size w W → Rd W W.heap.size A1 (u32s xs) → Rd W W.heap.size A2 (u32s ys) → Fit xs → Fit ys → Nf p s → Cg p (zo s) (zo xs + zo ys) → Calls Tryd.prog 16 #[.slice A1 xs.length c1, .slice A2 ys.length c2, .int .u32 (p : Int)] W (PE W s)) := fun W A1 c1 xs A2 c2 ys s hW h1 h2 f1 f2 hn hc => xAdd hpr hp f1 f2 hn hc W A1 c1 A2 c2 (HX.out W hW).bases h1 h2
  have HBZ : Hid (∀ W, Below w.heap.size w W → Rd W W.heap.size Aa (u32s a) → Rd W W.heap.size Ab (u32s b) → Calls Tryd.prog 42 #[.slice Aa a.length ca, .slice Ab b.length cb, .int .u32 (p : Int)] W fun e w' => ∃ g s t vg vs vt, e = .returned (.tuple #[vg, vs, vt, .int .i64 0]) ∧ PR W w' vg g ∧ PR W w' vs s ∧ PR W w' vt t ∧ Bzt p (mnP p a) (mnP p b) g s t) := fun W hW h1 h2 => pBezout_yes Aa ca a Ab cb b p W _ hpr hp (HX.out W hW).bases (Nat.le_refl _) h1 fa.1 fa.2 h2 fb.1 fb.2 nz
  have HDV : Hid (∀ W A1 c1 (xs : List Nat) A2 c2 (ys : List Nat), Below w.heap.size w W → Rd W W.heap.size A1 (u32s xs) → Rd W W.heap.size A2 (u32s ys) → Fit xs → Fit ys → mnP p ys ≠ [] → Calls Tryd.prog 44 #[.slice A1 xs.length c1, .slice A2 ys.length c2, .int .u32 (p : Int)] W fun e w' => ∃ q r vq vr, e = .returned (.tuple #[vq, vr, .int .i64 0]) ∧ PR W w' vq q ∧ PR W w' vr r ∧ Dv p (zo (mnP p xs)) (zo (mnP p ys)) (mnP p ys).length q r) := fun W A1 c1 xs A2 c2 ys hW h1 h2 f1 f2 hn => pDiv_yes A1 c1 xs A2 c2 ys p W _ hpr hp (HX.out W hW).bases (Nat.le_refl _) h1 f1.1 f1.2 h2 f2.1 f2.2 hn
  have HAL : Hid (∀ n W, n ≤ 100 → Calls Tryd.prog 43 #[.slice (some ⟨W.heap.size, 0, none⟩) n n] (W.alloc (.cells (List.replicate n (.int .i64 0)).toArray 28)) fun e w' => e = .returned (.bool true) ∧ Below W.heap.size W w') := fun n W hn => (all_zero n W.heap.size _ (Blk.new_ rfl) hn).mono fun _ _ h => ⟨h.1, ((Below.refl _ _).alloc (Nat.le_refl _) _).trans (h.2.below _)⟩
  have HA4 : Hid (∀ W, Calls Tryd.prog 43 #[.slice (some ⟨W.heap.size, 0, none⟩) 4 4] (W.alloc (.cells #[.int .i64 0, .int .i64 0, .int .i64 0, .int .i64 0] 28)) fun e w' => e = .returned (.bool true) ∧ Below W.heap.size W w') := fun W => HAL.out 4 W (by decide)
  have HA2 : Hid (∀ W, Calls Tryd.prog 43 #[.slice (some ⟨W.heap.size, 0, none⟩) 2 2] (W.alloc (.cells #[.int .i64 0, .int .i64 0] 28)) fun e w' => e = .returned (.bool true) ∧ Below W.heap.size W w') := fun W => HAL.out 2 W (by decide)
  have HSM : Hid (∀ W A1 c1 A2 c2 (xs : List Nat), xs.length ≤ 281474976710656 → Rd W W.heap.size A1 (u32s xs) → Rd W W.heap.size A2 (u32s xs) → Calls Tryd.prog 28 #[.slice A1 xs.length c1, .slice A2 xs.length c2] W fun e w' => e = .returned (.bool true) ∧ Below W.heap.size W w') := fun W A1 c1 A2 c2 xs hl h1 h2 => (psame_any A1 A2 c1 c2 xs xs W _ h1 h2 hl).mono fun _ _ h => ⟨by rw [h.1]; simp, h.2.below _⟩
  have hpos := hpr.pos
  obtain ⟨na, hna⟩ : ∃ na, na = mnP p a := ⟨_, rfl⟩
  obtain ⟨nb, hnb⟩ : ∃ nb, nb = mnP p b := ⟨_, rfl⟩
  have lna : na.length ≤ 1048576 := by have := mnP_len p a; rw [← hna] at this; omega
  have lnb : nb.length ≤ 1048576 := by have := mnP_len p b; rw [← hnb] at this; omega
  have HRNa : Hid (∀ W, Rd W W.heap.size Aa (u32s a) → Calls Tryd.prog 19 #[.slice Aa a.length ca, .int .u32 (p : Int)] W (PR1 W na)) := fun W h => by rw [hna]; exact yNorm hpr hp fa W Aa ca h
  have HRNb : Hid (∀ W, Rd W W.heap.size Ab (u32s b) → Calls Tryd.prog 19 #[.slice Ab b.length cb, .int .u32 (p : Int)] W (PR1 W nb)) := fun W h => by rw [hnb]; exact yNorm hpr hp fb W Ab cb h
  have Nna : Nf p na := by rw [hna]; exact mnP_nf hpos a
  have Nnb : Nf p nb := by rw [hnb]; exact mnP_nf hpos b
  have HI : Hid (∀ g s t, Bzt p (mnP p a) (mnP p b) g s t → Nf p g ∧ Fit g ∧ Fit s ∧ Fit t ∧ g.length ≤ 2097152 ∧ s.length ≤ 3000000 ∧ t.length ≤ 5000000 ∧ (g ≠ [] → mnP p g ≠ []) ∧ (nb ≠ [] → g ≠ []) ∧ (∀ q r, g ≠ [] → Dv p (zo (mnP p a)) (zo (mnP p g)) (mnP p g).length q r → r = []) ∧ (∀ q r, g ≠ [] → Dv p (zo (mnP p b)) (zo (mnP p g)) (mnP p g).length q r → r = [])) := fun g s t h => by
    have h' := h
    rw [← hna, ← hnb] at h'
    have l1 := gc_len hpr Nna Nnb h'.gc
    have l2 := h'.ls
    have l3 := h'.lt
    have e := mnP_id h.gc.nf
    refine ⟨h.gc.nf, .nf h.gc.nf hp (by omega), .nf h.ns hp (by omega), .nf h.nt hp (by omega), by omega, by omega, by omega, fun hg => by rw [e]; exact hg, fun hn => gc_some hpr Nnb h'.gc hn, fun q r hg hd => ?_, fun q r hg hd => ?_⟩
    · rw [e] at hd; exact dv_zero hpr h.gc.nf hd h.gc.left hg
    · rw [e] at hd; exact dv_zero hpr h.gc.nf hd h.gc.right hg
  have HPR : Hid (∀ xs ys : List Nat, Fit xs → Fit ys → xs.length + ys.length ≤ 20000000 → ∃ s, Nf p s ∧ Cg p (zo s) (zo xs * zo ys) ∧ Fit s ∧ s.length ≤ xs.length + ys.length) := fun xs ys _ _ hl => by
    obtain ⟨s, h1, h2, h3⟩ := nf_prod hpr (a := xs) (b := ys)
    exact ⟨s, h1, h2, .nf h1 hp (by omega), h3⟩
  have Fa := Lib.hid fa
  have Fb := Lib.hid fb
  have Lma := Lib.hid hma
  have Lmb := Lib.hid hmb
  have HSU : Hid (∀ g s t sa tb, Bzt p (mnP p a) (mnP p b) g s t → Cg p (zo sa) (zo s * zo a) → Cg p (zo tb) (zo t * zo b) → Cg p (zo g) (zo sa + zo tb)) := fun g s t sa tb h h1 h2 => h.sum h1 h2
  have HDA : Hid (∀ q r, Dv p (zo (mnP p a)) (zo (mnP p b)) (mnP p b).length q r → Fit q ∧ Fit r ∧ q.length ≤ 1048577 ∧ r.length ≤ 1048576 ∧ r.length < nb.length) := fun q r h => by
    have h' := h
    rw [← hna, ← hnb] at h'
    have h1 := h'.len_q hpr Nna Nnb
    have h2 := h'.lt
    exact ⟨.nf h.nq hp (by omega), .nf h.nr hp (by omega), by omega, by omega, h2⟩
  have HBK : Hid (∀ n q r qb, Dv p (zo (mnP p a)) (zo (mnP p b)) n q r → Cg p (zo qb) (zo q * zo b) → Cg p (zo na) (zo qb + zo r)) := fun n q r qb h h1 => by rw [hna]; exact h.back h1
  have HNa := Lib.hid Nna
  have HLa : Hid (na.length ≤ 281474976710656) := by show _ ≤ _; omega
  have Hnz : Hid (mnP p b ≠ []) := nz
  have Hnb0 : Hid (nb ≠ []) := by rw [hnb]; exact nz
  have Ra := Lib.hid ra
  have Rb := Lib.hid rb
  have HB0 : Hid (Below w.heap.size w w) := Below.refl _ _
  clear ra rb hx nz hna hnb lna lnb Nna Nnb hpos hpr hp fa fb hma hmb
  go_enter Tryd.func7, Tryd.ntmps7
  go_upto_region 9 with (first
    | (go_at_call 41; (with_reducible refine (HIS.out _).mono ?_); rintro _ w1z ⟨rfl, hb1⟩; have hx1 : Below w.heap.size w w1z := (by first | exact hb1 | exact (Below.refl _ _).drew.trans hb1); have HB1 := Lib.hid (HB0.out.trans (hx1.mono HB0.out.size)); have zR1_a := Lib.hid ((Ra.out.below hx1).mono hx1.size); have zR1_b := Lib.hid ((Rb.out.below hx1).mono hx1.size); clear hx1; clear Ra Rb)
    | (go_at_call 42; (with_reducible refine (HBZ.out _ (by first | exact HB1.out | exact HB1.out.drew) (by first | exact zR1_a.out | exact zR1_a.out.drewS) (by first | exact zR1_b.out | exact zR1_b.out.drewS)).mono ?_); rintro _ w2z ⟨g, s, t, _, _, _, rfl, ⟨Ag, cg, rfl, hg2, hb2⟩, ⟨As, cs, rfl, hs2, _⟩, ⟨At, ct, rfl, ht2, _⟩, hbz⟩; have hx2 : Below w1z.heap.size w1z w2z := (by first | exact hb2 | exact (Below.refl _ _).drew.trans hb2); have HB2 := Lib.hid (HB1.out.trans (hx2.mono HB1.out.size)); have zR2_a := Lib.hid ((zR1_a.out.below hx2).mono hx2.size); have zR2_b := Lib.hid ((zR1_b.out.below hx2).mono hx2.size); obtain ⟨hng, hfg, hfs, hft, hlg, hls, hlt, hgm, hbg, hra, hrb⟩ := HI.out g s t hbz; obtain ⟨sa, hsan, hsac, hsaf, hsal⟩ := HPR.out s a hfs Fa.out (by have := Lma.out; omega); obtain ⟨tb, htbn, htbc, htbf, htbl⟩ := HPR.out t b hft Fb.out (by have := Lmb.out; omega); have HSC := Lib.hid (HSU.out g s t sa tb hbz hsac htbc); have Hng := Lib.hid hng; have Ffg := Lib.hid hfg; have Ffs := Lib.hid hfs; have Fft := Lib.hid hft; have Hlg : Hid (g.length ≤ 281474976710656) := (by show _ ≤ _; omega); have Hgm := Lib.hid hgm; have Hbg := Lib.hid hbg; have Hra := Lib.hid hra; have Hrb := Lib.hid hrb; have Hsan := Lib.hid hsan; have Hsac := Lib.hid hsac; have Hsaf := Lib.hid hsaf; have Htbn := Lib.hid htbn; have Htbc := Lib.hid htbc; have Htbf := Lib.hid htbf; have zR_g := Lib.hid hg2.rd; have zR_s := Lib.hid hs2.rd; have zR_t := Lib.hid ht2.rd; clear hbz hng hfg hfs hft hlg hls hlt hgm hbg hra hrb hsan hsac hsaf hsal htbn htbc htbf htbl hg2 hs2 ht2; clear hx2; clear zR1_a zR1_b)
    | (go_at_call 18; (with_reducible refine (HMUL.out _ _ _ _ _ _ _ _ (by first | exact HB2.out | exact HB2.out.drew) (by first | exact zR_s.out | exact zR_s.out.drewS) (by first | exact zR2_a.out | exact zR2_a.out.drewS) Ffs.out Fa.out Hsan.out Hsac.out).mono ?_); rintro _ w3z ⟨A3, c3, rfl, hr3, hb3⟩; have hx3 : Below w2z.heap.size w2z w3z := (by first | exact hb3 | exact (Below.refl _ _).drew.trans hb3); have HB3 := Lib.hid (HB2.out.trans (hx3.mono HB2.out.size)); have zR3_a := Lib.hid ((zR2_a.out.below hx3).mono hx3.size); have zR3_b := Lib.hid ((zR2_b.out.below hx3).mono hx3.size); have zR3_g := Lib.hid ((zR_g.out.below hx3).mono hx3.size); have zR3_t := Lib.hid ((zR_t.out.below hx3).mono hx3.size); have zR3_sa := Lib.hid hr3.rd; clear hx3; clear hr3; clear zR2_a zR2_b zR_g zR_t)
    | (go_at_call 18; (with_reducible refine (HMUL.out _ _ _ _ _ _ _ _ (by first | exact HB3.out | exact HB3.out.drew) (by first | exact zR3_t.out | exact zR3_t.out.drewS) (by first | exact zR3_b.out | exact zR3_b.out.drewS) Fft.out Fb.out Htbn.out Htbc.out).mono ?_); rintro _ w4z ⟨A4, c4, rfl, hr4, hb4⟩; have hx4 : Below w3z.heap.size w3z w4z := (by first | exact hb4 | exact (Below.refl _ _).drew.trans hb4); have HB4 := Lib.hid (HB3.out.trans (hx4.mono HB3.out.size)); have zR4_a := Lib.hid ((zR3_a.out.below hx4).mono hx4.size); have zR4_b := Lib.hid ((zR3_b.out.below hx4).mono hx4.size); have zR4_g := Lib.hid ((zR3_g.out.below hx4).mono hx4.size); have zR4_sa := Lib.hid ((zR3_sa.out.below hx4).mono hx4.size); have zR4_tb := Lib.hid hr4.rd; clear hx4; clear hr4; clear zR3_a zR3_b zR3_g zR3_sa)
    | (go_at_call 16; (with_reducible refine (HADD.out _ _ _ _ _ _ _ _ (by first | exact HB4.out | exact HB4.out.drew) (by first | exact zR4_sa.out | exact zR4_sa.out.drewS) (by first | exact zR4_tb.out | exact zR4_tb.out.drewS) Hsaf.out Htbf.out Hng.out HSC.out).mono ?_); rintro _ w5z ⟨A5, c5, rfl, hr5, hb5⟩; have hx5 : Below w4z.heap.size w4z w5z := (by first | exact hb5 | exact (Below.refl _ _).drew.trans hb5); have HB5 := Lib.hid (HB4.out.trans (hx5.mono HB4.out.size)); have zR5_a := Lib.hid ((zR4_a.out.below hx5).mono hx5.size); have zR5_b := Lib.hid ((zR4_b.out.below hx5).mono hx5.size); have zR5_g := Lib.hid ((zR4_g.out.below hx5).mono hx5.size); have zR5_su := Lib.hid hr5.rd; clear hx5; clear hr5; clear zR4_a zR4_b zR4_g)
    | (go_at_call 43; (with_reducible refine (HA4.out _).mono ?_); rintro _ w6z ⟨rfl, hb6⟩; have hx6 : Below w5z.heap.size w5z w6z := (by first | exact hb6 | exact (Below.refl _ _).drew.trans hb6); have HB6 := Lib.hid (HB5.out.trans (hx6.mono HB5.out.size)); have zR6_a := Lib.hid ((zR5_a.out.below hx6).mono hx6.size); have zR6_b := Lib.hid ((zR5_b.out.below hx6).mono hx6.size); have zR6_g := Lib.hid ((zR5_g.out.below hx6).mono hx6.size); have zR6_su := Lib.hid ((zR5_su.out.below hx6).mono hx6.size); clear hx6; clear zR5_a zR5_b zR5_g zR5_su)
    | (go_at_call 28; (with_reducible refine (HSM.out _ _ _ _ _ _ Hlg.out (by first | exact zR6_su.out | exact zR6_su.out.drewS) (by first | exact zR6_g.out | exact zR6_g.out.drewS)).mono ?_); rintro _ w7z ⟨rfl, hb7⟩; have hx7 : Below w6z.heap.size w6z w7z := (by first | exact hb7 | exact (Below.refl _ _).drew.trans hb7); have HB7 := Lib.hid (HB6.out.trans (hx7.mono HB6.out.size)); have zR7_a := Lib.hid ((zR6_a.out.below hx7).mono hx7.size); have zR7_b := Lib.hid ((zR6_b.out.below hx7).mono hx7.size); have zR7_g := Lib.hid ((zR6_g.out.below hx7).mono hx7.size); have zR7_su := Lib.hid ((zR6_su.out.below hx7).mono hx7.size); clear hx7; clear zR6_a zR6_b zR6_g zR6_su))
  have hg0 := Hbg.out Hnb0.out
  have z1 : (0 : Int) < (g.length : Int) := by have := len_pos hg0; omega
  have hg0 := Lib.hid hg0
  go_wp2_with (first
    | (go_at_call 44; (with_reducible refine (HDV.out _ _ _ _ _ _ _ (by first | exact HB7.out | exact HB7.out.drew) (by first | exact zR7_a.out | exact zR7_a.out.drewS) (by first | exact zR7_g.out | exact zR7_g.out.drewS) Fa.out Ffg.out (Hgm.out hg0.out)).mono ?_); rintro _ w8z ⟨q1, r1, _, _, rfl, ⟨Aq1, cq1, rfl, _, _⟩, ⟨Ar1, cr1, rfl, _, hb8⟩, hdv⟩; have hx8 : Below w7z.heap.size w7z w8z := (by first | exact hb8 | exact (Below.refl _ _).drew.trans hb8); have HB8 := Lib.hid (HB7.out.trans (hx8.mono HB7.out.size)); have zR8_a := Lib.hid ((zR7_a.out.below hx8).mono hx8.size); have zR8_b := Lib.hid ((zR7_b.out.below hx8).mono hx8.size); have zR8_g := Lib.hid ((zR7_g.out.below hx8).mono hx8.size); obtain rfl := Hra.out _ _ hg0.out hdv; clear hdv; clear hx8; clear zR7_a zR7_b zR7_g)
    | (go_at_call 44; (with_reducible refine (HDV.out _ _ _ _ _ _ _ (by first | exact HB8.out | exact HB8.out.drew) (by first | exact zR8_b.out | exact zR8_b.out.drewS) (by first | exact zR8_g.out | exact zR8_g.out.drewS) Fb.out Ffg.out (Hgm.out hg0.out)).mono ?_); rintro _ w9z ⟨q2, r2, _, _, rfl, ⟨Aq2, cq2, rfl, _, _⟩, ⟨Ar2, cr2, rfl, _, hb9⟩, hdv⟩; have hx9 : Below w8z.heap.size w8z w9z := (by first | exact hb9 | exact (Below.refl _ _).drew.trans hb9); have HB9 := Lib.hid (HB8.out.trans (hx9.mono HB8.out.size)); have zR9_a := Lib.hid ((zR8_a.out.below hx9).mono hx9.size); have zR9_b := Lib.hid ((zR8_b.out.below hx9).mono hx9.size); have zR9_g := Lib.hid ((zR8_g.out.below hx9).mono hx9.size); obtain rfl := Hrb.out _ _ hg0.out hdv; clear hdv; clear hx9; clear zR8_a zR8_b zR8_g)
    | (go_at_call 43; (with_reducible refine (HA2.out _).mono ?_); rintro _ w10z ⟨rfl, hb10⟩; have hx10 : Below w9z.heap.size w9z w10z := (by first | exact hb10 | exact (Below.refl _ _).drew.trans hb10); have HB10 := Lib.hid (HB9.out.trans (hx10.mono HB9.out.size)); have zR10_a := Lib.hid ((zR9_a.out.below hx10).mono hx10.size); have zR10_b := Lib.hid ((zR9_b.out.below hx10).mono hx10.size); have zR10_g := Lib.hid ((zR9_g.out.below hx10).mono hx10.size); clear hx10; clear zR9_a zR9_b zR9_g)
    | (go_at_call 44; (with_reducible refine (HDV.out _ _ _ _ _ _ _ (by first | exact HB10.out | exact HB10.out.drew) (by first | exact zR10_a.out | exact zR10_a.out.drewS) (by first | exact zR10_b.out | exact zR10_b.out.drewS) Fa.out Fb.out Hnz.out).mono ?_); rintro _ w11z ⟨q, r, _, _, rfl, ⟨Aq, cq, rfl, hq11, _⟩, ⟨Ar, cr, rfl, hr11, hb11⟩, hdv⟩; have hx11 : Below w10z.heap.size w10z w11z := (by first | exact hb11 | exact (Below.refl _ _).drew.trans hb11); have HB11 := Lib.hid (HB10.out.trans (hx11.mono HB10.out.size)); have zR11_a := Lib.hid ((zR10_a.out.below hx11).mono hx11.size); have zR11_b := Lib.hid ((zR10_b.out.below hx11).mono hx11.size); obtain ⟨hfq, hfr, hlq, hlr, hrn⟩ := HDA.out _ _ hdv; obtain ⟨qb, hqbn, hqbc, hqbf, hqbl⟩ := HPR.out q b hfq Fb.out (by have := Lmb.out; omega); have HBC := Lib.hid (HBK.out _ _ _ _ hdv hqbc); have Ffq := Lib.hid hfq; have Ffr := Lib.hid hfr; have Hqbn := Lib.hid hqbn; have Hqbc := Lib.hid hqbc; have Hqbf := Lib.hid hqbf; have t9 : (r.length : Int) < (nb.length : Int) := (by omega); have zR_q := Lib.hid hq11.rd; have zR_r := Lib.hid hr11.rd; clear hfq hfr hlq hlr hrn hqbn hqbc hqbf hqbl hdv hq11 hr11; clear hx11; clear zR10_a zR10_b)
    | (go_at_call 22; (with_reducible refine (HN.out _ _).mono ?_); rintro _ w12z ⟨rfl, hb12⟩; have hx12 : Below w11z.heap.size w11z w12z := (by first | exact hb12 | exact (Below.refl _ _).drew.trans hb12); have HB12 := Lib.hid (HB11.out.trans (hx12.mono HB11.out.size)); have zR12_a := Lib.hid ((zR11_a.out.below hx12).mono hx12.size); have zR12_b := Lib.hid ((zR11_b.out.below hx12).mono hx12.size); have zR12_q := Lib.hid ((zR_q.out.below hx12).mono hx12.size); have zR12_r := Lib.hid ((zR_r.out.below hx12).mono hx12.size); clear hx12; clear zR11_a zR11_b zR_q zR_r)
    | (go_at_call 18; (with_reducible refine (HMUL.out _ _ _ _ _ _ _ _ (by first | exact HB12.out | exact HB12.out.drew) (by first | exact zR12_q.out | exact zR12_q.out.drewS) (by first | exact zR12_b.out | exact zR12_b.out.drewS) Ffq.out Fb.out Hqbn.out Hqbc.out).mono ?_); rintro _ w13z ⟨A13, c13, rfl, hr13, hb13⟩; have hx13 : Below w12z.heap.size w12z w13z := (by first | exact hb13 | exact (Below.refl _ _).drew.trans hb13); have HB13 := Lib.hid (HB12.out.trans (hx13.mono HB12.out.size)); have zR13_a := Lib.hid ((zR12_a.out.below hx13).mono hx13.size); have zR13_b := Lib.hid ((zR12_b.out.below hx13).mono hx13.size); have zR13_r := Lib.hid ((zR12_r.out.below hx13).mono hx13.size); have zR13_qb := Lib.hid hr13.rd; clear hx13; clear hr13; clear zR12_a zR12_b zR12_r)
    | (go_at_call 16; (with_reducible refine (HADD.out _ _ _ _ _ _ _ _ (by first | exact HB13.out | exact HB13.out.drew) (by first | exact zR13_qb.out | exact zR13_qb.out.drewS) (by first | exact zR13_r.out | exact zR13_r.out.drewS) Hqbf.out Ffr.out HNa.out HBC.out).mono ?_); rintro _ w14z ⟨A14, c14, rfl, hr14, hb14⟩; have hx14 : Below w13z.heap.size w13z w14z := (by first | exact hb14 | exact (Below.refl _ _).drew.trans hb14); have HB14 := Lib.hid (HB13.out.trans (hx14.mono HB13.out.size)); have zR14_a := Lib.hid ((zR13_a.out.below hx14).mono hx14.size); have zR14_b := Lib.hid ((zR13_b.out.below hx14).mono hx14.size); have zR14_back := Lib.hid hr14.rd; clear hx14; clear hr14; clear zR13_a zR13_b)
    | (go_at_call 43; (with_reducible refine (HA2.out _).mono ?_); rintro _ w15z ⟨rfl, hb15⟩; have hx15 : Below w14z.heap.size w14z w15z := (by first | exact hb15 | exact (Below.refl _ _).drew.trans hb15); have HB15 := Lib.hid (HB14.out.trans (hx15.mono HB14.out.size)); have zR15_a := Lib.hid ((zR14_a.out.below hx15).mono hx15.size); have zR15_b := Lib.hid ((zR14_b.out.below hx15).mono hx15.size); have zR15_back := Lib.hid ((zR14_back.out.below hx15).mono hx15.size); clear hx15; clear zR14_a zR14_b zR14_back)
    | (go_at_call 19; (with_reducible refine (HRNa.out _ (by first | exact zR15_a.out | exact zR15_a.out.drewS)).mono ?_); rintro _ w16z ⟨_, rfl, A16, c16, rfl, hr16, hb16⟩; have hx16 : Below w15z.heap.size w15z w16z := (by first | exact hb16 | exact (Below.refl _ _).drew.trans hb16); have HB16 := Lib.hid (HB15.out.trans (hx16.mono HB15.out.size)); have zR16_a := Lib.hid ((zR15_a.out.below hx16).mono hx16.size); have zR16_b := Lib.hid ((zR15_b.out.below hx16).mono hx16.size); have zR16_back := Lib.hid ((zR15_back.out.below hx16).mono hx16.size); have zR16_na := Lib.hid hr16.rd; clear hx16; clear hr16; clear zR15_a zR15_b zR15_back)
    | (go_at_call 28; (with_reducible refine (HSM.out _ _ _ _ _ _ HLa.out (by first | exact zR16_back.out | exact zR16_back.out.drewS) (by first | exact zR16_na.out | exact zR16_na.out.drewS)).mono ?_); rintro _ w17z ⟨rfl, hb17⟩; have hx17 : Below w16z.heap.size w16z w17z := (by first | exact hb17 | exact (Below.refl _ _).drew.trans hb17); have HB17 := Lib.hid (HB16.out.trans (hx17.mono HB16.out.size)); have zR17_a := Lib.hid ((zR16_a.out.below hx17).mono hx17.size); have zR17_b := Lib.hid ((zR16_b.out.below hx17).mono hx17.size); have zR17_back := Lib.hid ((zR16_back.out.below hx17).mono hx17.size); have zR17_na := Lib.hid ((zR16_na.out.below hx17).mono hx17.size); clear hx17; clear zR16_a zR16_b zR16_back zR16_na)
    | (go_at_call 19; (with_reducible refine (HRNb.out _ (by first | exact zR17_b.out | exact zR17_b.out.drewS)).mono ?_); rintro _ w18z ⟨_, rfl, A18, c18, rfl, hr18, hb18⟩; have hx18 : Below w17z.heap.size w17z w18z := (by first | exact hb18 | exact (Below.refl _ _).drew.trans hb18); have HB18 := Lib.hid (HB17.out.trans (hx18.mono HB17.out.size)); have zR18_a := Lib.hid ((zR17_a.out.below hx18).mono hx18.size); have zR18_b := Lib.hid ((zR17_b.out.below hx18).mono hx18.size); have zR18_nb := Lib.hid hr18.rd; clear hx18; clear hr18; clear zR17_a zR17_b)
    | (go_at_call 29; (with_reducible refine (HAW.out _ (by first | exact HB18.out | exact HB18.out.drew)).mono ?_); rintro _ w19z ⟨rfl, hb19⟩; have hx19 : Below w18z.heap.size w18z w19z := (by first | exact hb19 | exact (Below.refl _ _).drew.trans hb19); have HB19 := Lib.hid (HB18.out.trans (hx19.mono HB18.out.size)); have zR19_a := Lib.hid ((zR18_a.out.below hx19).mono hx19.size); have zR19_b := Lib.hid ((zR18_b.out.below hx19).mono hx19.size); clear hx19; clear zR18_a zR18_b))
  go_ret
  exact ⟨rfl, HB19.out⟩

theorem modpolyMakes_walk (Aa Ab : Option Addr) (ca cb : Nat) (a b : List Nat) (p : Nat) (w : World) (hx : Bx w) (ra : Rd w w.heap.size Aa (u32s a)) (rb : Rd w w.heap.size Ab (u32s b)) (hma : a.length ≤ 1048576) (hmb : b.length ≤ 1048576) (da : ∀ x ∈ a, x < 4294967296) (db : ∀ x ∈ b, x < 4294967296) (hp : p < 4294967296) :
    Calls Tryd.prog 7 #[.slice Aa a.length ca, .slice Ab b.length cb, .int .u32 (p : Int)] w fun e w' => e = .returned (.bool true) ∧ Below w.heap.size w w' := by
  by_cases hpr : Pr p
  · by_cases nz : mnP p b = []
    · exact makes_zero Aa Ab ca cb a b p w hx ra rb hma hmb ⟨by omega, da⟩ ⟨by omega, db⟩ hp hpr nz
    · exact makes_yes Aa Ab ca cb a b p w hx ra rb hma hmb ⟨by omega, da⟩ ⟨by omega, db⟩ hp hpr nz
  · exact makes_no Aa Ab ca cb a b p w hx ra rb hma hmb ⟨by omega, da⟩ ⟨by omega, db⟩ hp hpr
end
section
open Go

theorem bulk_one {H : Type} (d : DataW H) : 1 ≤ Rows.uptoBulk d := by
  cases d with
  | lit l => cases l <;> simp only [Rows.uptoBulk] <;> omega
  | _ => simp only [Rows.uptoBulk]; omega
theorem bulk_len {H : Type} (l : List (DataW H)) : l.length ≤ Rows.uptoBulkAll l := by
  induction l with
  | nil => simp only [List.length_nil]; omega
  | cons x l ih => have := bulk_one x; simp only [Rows.uptoBulkAll, List.length_cons]; omega
theorem bulk_part {H : Type} {d : DataW H} {l : List (DataW H)} (h : d ∈ l) : Rows.uptoBulk d ≤ Rows.uptoBulkAll l := by
  induction l with
  | nil => cases h
  | cons x l ih =>
    simp only [Rows.uptoBulkAll]
    rcases List.mem_cons.1 h with rfl | h
    · omega
    · have := ih h; omega
/-- A slice among data of small bulk has few places. -/
theorem small_slice {H : Type} {l : List (DataW H)} {d : DataW H} (hk : Rows.uptoSmall H l = true) (hd : d ∈ l) : ∀ elems spare, d = .slice elems spare → elems.length + spare.length ≤ 1048576 := fun elems spare e => by
  have h1 : Rows.uptoBulkAll l ≤ 1048576 := of_decide_eq_true hk
  have h2 := bulk_part hd
  subst e
  have h3 := bulk_len elems
  have h4 := bulk_len spare
  have h5 : Rows.uptoBulk (DataW.slice elems spare) = Rows.uptoBulkAll elems + Rows.uptoBulkAll spare + 1 := by simp only [Rows.uptoBulk]
  omega
end
end Go.Proofs.YtddhhndnkjajmaaDoor
