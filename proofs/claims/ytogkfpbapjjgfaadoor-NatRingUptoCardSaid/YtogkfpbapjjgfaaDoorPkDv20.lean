/- The walk of the law NatRing. Conditions: at most 2^20 limbs each; the table reads as it is laid. -/
import Derived.Test.YtogkfpbapjjgfaaDoorPkDv19
import Derived.Test.YtogkfpbapjjgfaaDoorPkDv17
namespace Go.Proofs.YtogkfpbapjjgfaaDoor
open Go.RowKit

set_option maxHeartbeats 6400000 in
set_option maxRecDepth 100000 in
theorem ring_walk (A A2 A3 : Option Addr) (c c2 c3 : Nat) (xs ys zs : List Nat) (w : World) (hr : Rd w w.heap.size A (u32s xs)) (hr2 : Rd w w.heap.size A2 (u32s ys)) (hr3 : Rd w w.heap.size A3 (u32s zs)) (hd : Dig 4294967296 xs) (hd2 : Dig 4294967296 ys) (hd3 : Dig 4294967296 zs) (hc : xs.length ≤ c) (hc2 : ys.length ≤ c2) (hc3 : zs.length ≤ c3) (hm : xs.length ≤ 1048576) (hm2 : ys.length ≤ 1048576) (hm3 : zs.length ≤ 1048576) (hT : Tab64 w) :
    Calls Tryd.prog 6 #[.slice A xs.length c, .slice A2 ys.length c2, .slice A3 zs.length c3] w fun e w' => e = .returned (.bool true) ∧ Below w.heap.size w w' := by
  have hTl := hT.lt
  have hA : Hv w A c xs (val 4294967296 xs) 1048576 := ⟨hd, rfl, hr, hc, hm⟩
  have hB : Hv w A2 c2 ys (val 4294967296 ys) 1048576 := ⟨hd2, rfl, hr2, hc2, hm2⟩
  have hC : Hv w A3 c3 zs (val 4294967296 zs) 1048576 := ⟨hd3, rfl, hr3, hc3, hm3⟩
  have hbel : Below w.heap.size w w := Below.refl _ _
  obtain ⟨a, ha⟩ : ∃ a, a = val 4294967296 xs := ⟨_, rfl⟩
  obtain ⟨b, hb⟩ : ∃ b, b = val 4294967296 ys := ⟨_, rfl⟩
  obtain ⟨d, hd9⟩ : ∃ d, d = val 4294967296 zs := ⟨_, rfl⟩
  rw [← ha] at hA
  rw [← hb] at hB
  rw [← hd9] at hC
  clear ha hb hd9 hr hr2 hr3 hd hd2 hd3 hc hc2 hc3 hm hm2 hm3
  go_enter Tryd.func6, Tryd.ntmps6
  go_wp2_with fail
  refine (Hv.add hA hB (by omega) (by omega)).mono ?_
  rintro e w1 ⟨z1, A1, c1, rfl, s1, hb1⟩
  replace hA := hA.next hb1
  replace hB := hB.next hb1
  replace hC := hC.next hb1
  replace hbel := hbel.trans (hb1.mono hbel.size)
  go_wp2_with fail
  refine (Hv.add hB hA (by omega) (by omega)).mono ?_
  rintro e w2 ⟨z2, A2, c2, rfl, s2, hb2⟩
  replace hA := hA.next hb2
  replace hB := hB.next hb2
  replace hC := hC.next hb2
  replace s1 := s1.next hb2
  replace hbel := hbel.trans (hb2.mono hbel.size)
  go_wp2_with fail
  refine (Hv.equal s1 s2 (by omega) (by omega) (Nat.add_comm _ _)).mono ?_
  rintro e w3 ⟨rfl, hb3⟩
  replace hA := hA.next hb3
  replace hB := hB.next hb3
  replace hC := hC.next hb3
  replace hbel := hbel.trans (hb3.mono hbel.size)
  clear s1
  clear s2
  go_wp2_with fail
  refine (Hv.mul hA hB (by omega) (by omega)).mono ?_
  rintro e w4 ⟨z4, A4, c4, rfl, s3, hb4⟩
  replace hA := hA.next hb4
  replace hB := hB.next hb4
  replace hC := hC.next hb4
  replace hbel := hbel.trans (hb4.mono hbel.size)
  go_wp2_with fail
  refine (Hv.mul hB hA (by omega) (by omega)).mono ?_
  rintro e w5 ⟨z5, A5, c5, rfl, s4, hb5⟩
  replace hA := hA.next hb5
  replace hB := hB.next hb5
  replace hC := hC.next hb5
  replace s3 := s3.next hb5
  replace hbel := hbel.trans (hb5.mono hbel.size)
  go_wp2_with fail
  refine (Hv.equal s3 s4 (by omega) (by omega) (Nat.mul_comm _ _)).mono ?_
  rintro e w6 ⟨rfl, hb6⟩
  replace hA := hA.next hb6
  replace hB := hB.next hb6
  replace hC := hC.next hb6
  replace hbel := hbel.trans (hb6.mono hbel.size)
  clear s3
  clear s4
  go_wp2_with fail
  refine (Hv.add hA hB (by omega) (by omega)).mono ?_
  rintro e w7 ⟨z7, A7, c7, rfl, s5, hb7⟩
  replace hA := hA.next hb7
  replace hB := hB.next hb7
  replace hC := hC.next hb7
  replace hbel := hbel.trans (hb7.mono hbel.size)
  go_wp2_with fail
  refine (Hv.add s5 hC (by omega) (by omega)).mono ?_
  rintro e w8 ⟨z8, A8, c8, rfl, s6, hb8⟩
  replace hA := hA.next hb8
  replace hB := hB.next hb8
  replace hC := hC.next hb8
  replace hbel := hbel.trans (hb8.mono hbel.size)
  clear s5
  go_wp2_with fail
  refine (Hv.add hB hC (by omega) (by omega)).mono ?_
  rintro e w9 ⟨z9, A9, c9, rfl, s7, hb9⟩
  replace hA := hA.next hb9
  replace hB := hB.next hb9
  replace hC := hC.next hb9
  replace s6 := s6.next hb9
  replace hbel := hbel.trans (hb9.mono hbel.size)
  go_wp2_with fail
  refine (Hv.add hA s7 (by omega) (by omega)).mono ?_
  rintro e w10 ⟨z10, A10, c10, rfl, s8, hb10⟩
  replace hA := hA.next hb10
  replace hB := hB.next hb10
  replace hC := hC.next hb10
  replace s6 := s6.next hb10
  replace hbel := hbel.trans (hb10.mono hbel.size)
  clear s7
  go_wp2_with fail
  refine (Hv.equal s6 s8 (by omega) (by omega) (Nat.add_assoc _ _ _)).mono ?_
  rintro e w11 ⟨rfl, hb11⟩
  replace hA := hA.next hb11
  replace hB := hB.next hb11
  replace hC := hC.next hb11
  replace hbel := hbel.trans (hb11.mono hbel.size)
  clear s6
  clear s8
  go_wp2_with fail
  refine (Hv.mul hA hB (by omega) (by omega)).mono ?_
  rintro e w12 ⟨z12, A12, c12, rfl, s9, hb12⟩
  replace hA := hA.next hb12
  replace hB := hB.next hb12
  replace hC := hC.next hb12
  replace hbel := hbel.trans (hb12.mono hbel.size)
  go_wp2_with fail
  refine (Hv.mul s9 hC (by omega) (by omega)).mono ?_
  rintro e w13 ⟨z13, A13, c13, rfl, s10, hb13⟩
  replace hA := hA.next hb13
  replace hB := hB.next hb13
  replace hC := hC.next hb13
  replace hbel := hbel.trans (hb13.mono hbel.size)
  clear s9
  go_wp2_with fail
  refine (Hv.mul hB hC (by omega) (by omega)).mono ?_
  rintro e w14 ⟨z14, A14, c14, rfl, s11, hb14⟩
  replace hA := hA.next hb14
  replace hB := hB.next hb14
  replace hC := hC.next hb14
  replace s10 := s10.next hb14
  replace hbel := hbel.trans (hb14.mono hbel.size)
  go_wp2_with fail
  refine (Hv.mul hA s11 (by omega) (by omega)).mono ?_
  rintro e w15 ⟨z15, A15, c15, rfl, s12, hb15⟩
  replace hA := hA.next hb15
  replace hB := hB.next hb15
  replace hC := hC.next hb15
  replace s10 := s10.next hb15
  replace hbel := hbel.trans (hb15.mono hbel.size)
  clear s11
  go_wp2_with fail
  refine (Hv.equal s10 s12 (by omega) (by omega) (Nat.mul_assoc _ _ _)).mono ?_
  rintro e w16 ⟨rfl, hb16⟩
  replace hA := hA.next hb16
  replace hB := hB.next hb16
  replace hC := hC.next hb16
  replace hbel := hbel.trans (hb16.mono hbel.size)
  clear s10
  clear s12
  go_wp2_with fail
  refine (Hv.add hB hC (by omega) (by omega)).mono ?_
  rintro e w17 ⟨z17, A17, c17, rfl, s13, hb17⟩
  replace hA := hA.next hb17
  replace hB := hB.next hb17
  replace hC := hC.next hb17
  replace hbel := hbel.trans (hb17.mono hbel.size)
  go_wp2_with fail
  refine (Hv.mul hA s13 (by omega) (by omega)).mono ?_
  rintro e w18 ⟨z18, A18, c18, rfl, s14, hb18⟩
  replace hA := hA.next hb18
  replace hB := hB.next hb18
  replace hC := hC.next hb18
  replace hbel := hbel.trans (hb18.mono hbel.size)
  clear s13
  go_wp2_with fail
  refine (Hv.mul hA hB (by omega) (by omega)).mono ?_
  rintro e w19 ⟨z19, A19, c19, rfl, s15, hb19⟩
  replace hA := hA.next hb19
  replace hB := hB.next hb19
  replace hC := hC.next hb19
  replace s14 := s14.next hb19
  replace hbel := hbel.trans (hb19.mono hbel.size)
  go_wp2_with fail
  refine (Hv.mul hA hC (by omega) (by omega)).mono ?_
  rintro e w20 ⟨z20, A20, c20, rfl, s16, hb20⟩
  replace hA := hA.next hb20
  replace hB := hB.next hb20
  replace hC := hC.next hb20
  replace s14 := s14.next hb20
  replace s15 := s15.next hb20
  replace hbel := hbel.trans (hb20.mono hbel.size)
  go_wp2_with fail
  refine (Hv.add s15 s16 (by omega) (by omega)).mono ?_
  rintro e w21 ⟨z21, A21, c21, rfl, s17, hb21⟩
  replace hA := hA.next hb21
  replace hB := hB.next hb21
  replace hC := hC.next hb21
  replace s14 := s14.next hb21
  replace hbel := hbel.trans (hb21.mono hbel.size)
  clear s15
  clear s16
  go_wp2_with fail
  refine (Hv.equal s14 s17 (by omega) (by omega) (Nat.mul_add _ _ _)).mono ?_
  rintro e w22 ⟨rfl, hb22⟩
  replace hA := hA.next hb22
  replace hB := hB.next hb22
  replace hC := hC.next hb22
  replace hbel := hbel.trans (hb22.mono hbel.size)
  clear s14
  clear s17
  go_wp2_with fail
  refine (Hv.add hA hB (by omega) (by omega)).mono ?_
  rintro e w23 ⟨z23, A23, c23, rfl, s18, hb23⟩
  replace hA := hA.next hb23
  replace hB := hB.next hb23
  replace hC := hC.next hb23
  replace hbel := hbel.trans (hb23.mono hbel.size)
  go_wp2_with fail
  refine (Hv.sub s18 hB (by omega) (by omega) (Nat.le_add_left _ _)).mono ?_
  rintro e w24 ⟨z24, A24, c24, rfl, s19, hb24⟩
  replace hA := hA.next hb24
  replace hB := hB.next hb24
  replace hC := hC.next hb24
  replace hbel := hbel.trans (hb24.mono hbel.size)
  clear s18
  go_wp2_with fail
  refine (Hv.equal s19 hA (by omega) (by omega) (Nat.add_sub_cancel _ _)).mono ?_
  rintro e w25 ⟨rfl, hb25⟩
  replace hA := hA.next hb25
  replace hB := hB.next hb25
  replace hC := hC.next hb25
  replace hbel := hbel.trans (hb25.mono hbel.size)
  clear s19
  go_wp2_with fail
  refine (Hv.gcd hA hB (by omega) (by omega) (hT.below hbel hTl) (Nat.lt_of_lt_of_le hTl hbel.size)).mono ?_
  rintro e w26 ⟨z26, A26, c26, rfl, hG, hb26⟩
  replace hA := hA.next hb26
  replace hB := hB.next hb26
  replace hC := hC.next hb26
  replace hbel := hbel.trans (hb26.mono hbel.size)
  obtain ⟨g, hg⟩ : ∃ g, g = Nat.gcd a b := ⟨_, rfl⟩
  rw [← hg] at hG
  have Hg := Lib.hid hg
  clear hg
  by_cases hg0 : g = 0
  · have tg : bitsOf g = 0 := by rw [hg0]; rfl
    have L1 := Lib.hid (Hv.nlen hG (by omega))
    rw [tg] at L1
    clear tg
    go_wp2_with fail
    refine L1.out.mono ?_
    rintro e wl ⟨rfl, rfl⟩
    clear L1 hG
    by_cases hb0 : b = 0
    · have e5 : (if b = 0 then (5 : Int) else 0) = 5 := if_pos hb0
      have hdv := Hv.div hA hB (by omega) (by omega)
      rw [e5] at hdv
      have Hdv := Lib.hid hdv
      clear hdv e5
      go_wp2_with fail
      refine Hdv.out.mono ?_
      rintro e w27 ⟨q27, r27, A27, c27, B27, d27, rfl, hQ, hR, hb27⟩
      replace hA := hA.next hb27
      replace hB := hB.next hb27
      replace hC := hC.next hb27
      replace hbel := hbel.trans (hb27.mono hbel.size)
      clear Hdv
      clear hQ hR
      go_wp2_with fail
      refine (Hv.sqrt hA (by omega)).mono ?_
      rintro e w28 ⟨s, hs, z28, A28, c28, rfl, hS, hb28⟩
      replace hA := hA.next hb28
      replace hB := hB.next hb28
      replace hC := hC.next hb28
      replace hbel := hbel.trans (hb28.mono hbel.size)
      have O1 : Hid (∀ W : World, Calls Tryd.prog 12 #[.int .u64 1] W fun e w' => HvOut W w' 1 1 e) := fun W => (of_any 1 (by omega) W).mono fun e w' ⟨zs, A', c', q1, q2, q3, q4⟩ => ⟨zs, A', c', q1, Hv.of q2 q3 (by decide), q4⟩
      go_wp2_with fail
      refine (O1.out _).mono ?_
      rintro e w29 ⟨z29, A29, c29, rfl, hO, hb29⟩
      replace hA := hA.next hb29
      replace hB := hB.next hb29
      replace hC := hC.next hb29
      replace hS := hS.next hb29
      replace hbel := hbel.trans (hb29.mono hbel.size)
      clear O1
      go_wp2_with fail
      refine (Hv.add hS hO (by omega) (by omega)).mono ?_
      rintro e w30 ⟨z30, A30, c30, rfl, hU, hb30⟩
      replace hA := hA.next hb30
      replace hB := hB.next hb30
      replace hC := hC.next hb30
      replace hS := hS.next hb30
      replace hbel := hbel.trans (hb30.mono hbel.size)
      clear hO
      go_wp2_with fail
      refine (Hv.mul hS hS (by omega) (by omega)).mono ?_
      rintro e w31 ⟨z31, A31, c31, rfl, hV, hb31⟩
      replace hA := hA.next hb31
      replace hB := hB.next hb31
      replace hC := hC.next hb31
      replace hS := hS.next hb31
      replace hU := hU.next hb31
      replace hbel := hbel.trans (hb31.mono hbel.size)
      have t32 : decide (cmpN (s * s) a ≤ 0) = true := by
        have := hs.1
        unfold cmpN; split <;> first | rfl | (rw [if_neg (by omega)]; rfl)
      go_wp2_with fail
      refine (Hv.cmp hV hA (by omega) (by omega)).mono ?_
      rintro e w32 ⟨rfl, hb32⟩
      replace hA := hA.next hb32
      replace hB := hB.next hb32
      replace hC := hC.next hb32
      replace hU := hU.next hb32
      replace hbel := hbel.trans (hb32.mono hbel.size)
      clear hV
      clear hS
      go_wp2_with (simp only [])
      refine (Hv.mul hU hU (by omega) (by omega)).mono ?_
      rintro e w33 ⟨z33, A33, c33, rfl, hT9, hb33⟩
      replace hA := hA.next hb33
      replace hB := hB.next hb33
      replace hC := hC.next hb33
      replace hbel := hbel.trans (hb33.mono hbel.size)
      clear hU
      have t34 : decide (0 < cmpN ((s + 1) * (s + 1)) a) = true := by
        have := hs.2
        unfold cmpN; rw [if_neg (by omega), if_pos (by omega)]; rfl
      go_wp2_with fail
      refine (Hv.cmp hT9 hA (by omega) (by omega)).mono ?_
      rintro e w34 ⟨rfl, hb34⟩
      replace hA := hA.next hb34
      replace hB := hB.next hb34
      replace hC := hC.next hb34
      replace hbel := hbel.trans (hb34.mono hbel.size)
      clear hT9
      go_wp2_with (first | simp only [] | (go_at_call 22; (with_reducible refine (lives_any _).mono ?_); rintro e wz ⟨rfl, hbz⟩))
      go_ret
      exact ⟨rfl, hbel.trans (hbz.mono hbel.size)⟩
    · have e5 : (if b = 0 then (5 : Int) else 0) = 0 := if_neg hb0
      have hdv := Hv.div hA hB (by omega) (by omega)
      rw [e5] at hdv
      have Hdv := Lib.hid hdv
      clear hdv e5
      go_wp2_with fail
      refine Hdv.out.mono ?_
      rintro e w35 ⟨q35, r35, A35, c35, B35, d35, rfl, hQ, hR, hb35⟩
      replace hA := hA.next hb35
      replace hB := hB.next hb35
      replace hC := hC.next hb35
      replace hbel := hbel.trans (hb35.mono hbel.size)
      clear Hdv
      rw [if_neg hb0] at hR
      go_wp2_with fail
      refine (Hv.mul hQ hB (by omega) (by omega)).mono ?_
      rintro e w36 ⟨z36, A36, c36, rfl, k1, hb36⟩
      replace hA := hA.next hb36
      replace hB := hB.next hb36
      replace hC := hC.next hb36
      replace hR := hR.next hb36
      replace hbel := hbel.trans (hb36.mono hbel.size)
      clear hQ
      go_wp2_with fail
      refine (Hv.add k1 hR (by omega) (by omega)).mono ?_
      rintro e w37 ⟨z37, A37, c37, rfl, k2, hb37⟩
      replace hA := hA.next hb37
      replace hB := hB.next hb37
      replace hC := hC.next hb37
      replace hR := hR.next hb37
      replace hbel := hbel.trans (hb37.mono hbel.size)
      clear k1
      go_wp2_with fail
      refine (Hv.equal k2 hA (by omega) (by omega) (by rw [Nat.mul_comm]; exact Nat.div_add_mod a b)).mono ?_
      rintro e w38 ⟨rfl, hb38⟩
      replace hA := hA.next hb38
      replace hB := hB.next hb38
      replace hC := hC.next hb38
      replace hR := hR.next hb38
      replace hbel := hbel.trans (hb38.mono hbel.size)
      clear k2
      have tc : decide (0 ≤ cmpN (a % b) b) = false := by
        have := Nat.mod_lt a (Nat.pos_of_ne_zero hb0)
        unfold cmpN; rw [if_pos this]; rfl
      go_wp2_with fail
      refine (Hv.cmp hR hB (by omega) (by omega)).mono ?_
      rintro e w39 ⟨rfl, hb39⟩
      replace hA := hA.next hb39
      replace hB := hB.next hb39
      replace hC := hC.next hb39
      replace hbel := hbel.trans (hb39.mono hbel.size)
      clear hR
      go_wp2_with (simp only [])
      refine (Hv.sqrt hA (by omega)).mono ?_
      rintro e w40 ⟨s, hs, z40, A40, c40, rfl, hS, hb40⟩
      replace hA := hA.next hb40
      replace hB := hB.next hb40
      replace hC := hC.next hb40
      replace hbel := hbel.trans (hb40.mono hbel.size)
      have O1 : Hid (∀ W : World, Calls Tryd.prog 12 #[.int .u64 1] W fun e w' => HvOut W w' 1 1 e) := fun W => (of_any 1 (by omega) W).mono fun e w' ⟨zs, A', c', q1, q2, q3, q4⟩ => ⟨zs, A', c', q1, Hv.of q2 q3 (by decide), q4⟩
      go_wp2_with fail
      refine (O1.out _).mono ?_
      rintro e w41 ⟨z41, A41, c41, rfl, hO, hb41⟩
      replace hA := hA.next hb41
      replace hB := hB.next hb41
      replace hC := hC.next hb41
      replace hS := hS.next hb41
      replace hbel := hbel.trans (hb41.mono hbel.size)
      clear O1
      go_wp2_with fail
      refine (Hv.add hS hO (by omega) (by omega)).mono ?_
      rintro e w42 ⟨z42, A42, c42, rfl, hU, hb42⟩
      replace hA := hA.next hb42
      replace hB := hB.next hb42
      replace hC := hC.next hb42
      replace hS := hS.next hb42
      replace hbel := hbel.trans (hb42.mono hbel.size)
      clear hO
      go_wp2_with fail
      refine (Hv.mul hS hS (by omega) (by omega)).mono ?_
      rintro e w43 ⟨z43, A43, c43, rfl, hV, hb43⟩
      replace hA := hA.next hb43
      replace hB := hB.next hb43
      replace hC := hC.next hb43
      replace hS := hS.next hb43
      replace hU := hU.next hb43
      replace hbel := hbel.trans (hb43.mono hbel.size)
      have t44 : decide (cmpN (s * s) a ≤ 0) = true := by
        have := hs.1
        unfold cmpN; split <;> first | rfl | (rw [if_neg (by omega)]; rfl)
      go_wp2_with fail
      refine (Hv.cmp hV hA (by omega) (by omega)).mono ?_
      rintro e w44 ⟨rfl, hb44⟩
      replace hA := hA.next hb44
      replace hB := hB.next hb44
      replace hC := hC.next hb44
      replace hU := hU.next hb44
      replace hbel := hbel.trans (hb44.mono hbel.size)
      clear hV
      clear hS
      go_wp2_with (simp only [])
      refine (Hv.mul hU hU (by omega) (by omega)).mono ?_
      rintro e w45 ⟨z45, A45, c45, rfl, hT9, hb45⟩
      replace hA := hA.next hb45
      replace hB := hB.next hb45
      replace hC := hC.next hb45
      replace hbel := hbel.trans (hb45.mono hbel.size)
      clear hU
      have t46 : decide (0 < cmpN ((s + 1) * (s + 1)) a) = true := by
        have := hs.2
        unfold cmpN; rw [if_neg (by omega), if_pos (by omega)]; rfl
      go_wp2_with fail
      refine (Hv.cmp hT9 hA (by omega) (by omega)).mono ?_
      rintro e w46 ⟨rfl, hb46⟩
      replace hA := hA.next hb46
      replace hB := hB.next hb46
      replace hC := hC.next hb46
      replace hbel := hbel.trans (hb46.mono hbel.size)
      clear hT9
      go_wp2_with (first | simp only [] | (go_at_call 22; (with_reducible refine (lives_any _).mono ?_); rintro e wz ⟨rfl, hbz⟩))
      go_ret
      exact ⟨rfl, hbel.trans (hbz.mono hbel.size)⟩
  · obtain ⟨bl, hbl⟩ : ∃ bl, bl = bitsOf g := ⟨_, rfl⟩
    have hblp : 0 < bl := by rw [hbl]; unfold bitsOf; rw [if_neg hg0]; omega
    have tg : decide (0 < bl) = true := decide_eq_true hblp
    have L1 := Lib.hid (Hv.nlen hG (by omega))
    rw [← hbl] at L1
    clear hbl
    go_wp2_with fail
    refine L1.out.mono ?_
    rintro e wl ⟨rfl, rfl⟩
    clear L1
    have hdv := Hv.div hA hG (by omega) (by omega)
    rw [if_neg hg0] at hdv
    have hz0 : a % g = 0 := Nat.mod_eq_zero_of_dvd (by rw [Hg.out]; exact Nat.gcd_dvd_left a b)
    have Hdv := Lib.hid hdv
    clear hdv
    go_wp2_with (simp only [])
    refine Hdv.out.mono ?_
    rintro e w47 ⟨q47, r47, A47, c47, B47, d47, rfl, hQ, hRa, hb47⟩
    clear Hdv
    rw [if_neg hg0, hz0] at hRa
    clear hz0 hQ
    replace hA := hA.next hb47
    replace hB := hB.next hb47
    replace hC := hC.next hb47
    replace hG := hG.next hb47
    replace hbel := hbel.trans (hb47.mono hbel.size)
    have hdv := Hv.div hB hG (by omega) (by omega)
    rw [if_neg hg0] at hdv
    have hz0 : b % g = 0 := Nat.mod_eq_zero_of_dvd (by rw [Hg.out]; exact Nat.gcd_dvd_right a b)
    have Hdv := Lib.hid hdv
    clear hdv
    go_wp2_with (simp only [])
    refine Hdv.out.mono ?_
    rintro e w48 ⟨q48, r48, A48, c48, B48, d48, rfl, hQ, hRb, hb48⟩
    clear Hdv
    rw [if_neg hg0, hz0] at hRb
    clear hz0 hQ
    replace hA := hA.next hb48
    replace hB := hB.next hb48
    replace hC := hC.next hb48
    replace hG := hG.next hb48
    replace hRa := hRa.next hb48
    replace hbel := hbel.trans (hb48.mono hbel.size)
    have La := Lib.hid (Hv.nlen hRa (by omega))
    rw [show bitsOf 0 = 0 from rfl] at La
    go_wp2_with fail
    refine La.out.mono ?_
    rintro e wl ⟨rfl, rfl⟩
    clear La hRa
    have Lb := Lib.hid (Hv.nlen hRb (by omega))
    rw [show bitsOf 0 = 0 from rfl] at Lb
    go_wp2_with fail
    refine Lb.out.mono ?_
    rintro e wl ⟨rfl, rfl⟩
    clear Lb hRb
    go_wp2_with fail
    refine (Hv.mul hA hC (by omega) (by omega)).mono ?_
    rintro e w49 ⟨z49, A49, c49, rfl, m1, hb49⟩
    replace hA := hA.next hb49
    replace hB := hB.next hb49
    replace hC := hC.next hb49
    replace hG := hG.next hb49
    replace hbel := hbel.trans (hb49.mono hbel.size)
    go_wp2_with fail
    refine (Hv.mul hB hC (by omega) (by omega)).mono ?_
    rintro e w50 ⟨z50, A50, c50, rfl, m2, hb50⟩
    replace hA := hA.next hb50
    replace hB := hB.next hb50
    replace hC := hC.next hb50
    replace hG := hG.next hb50
    replace m1 := m1.next hb50
    replace hbel := hbel.trans (hb50.mono hbel.size)
    go_wp2_with fail
    refine (Hv.gcd m1 m2 (by omega) (by omega) (hT.below hbel hTl) (Nat.lt_of_lt_of_le hTl hbel.size)).mono ?_
    rintro e w51 ⟨z51, A51, c51, rfl, m3, hb51⟩
    replace hA := hA.next hb51
    replace hB := hB.next hb51
    replace hC := hC.next hb51
    replace hG := hG.next hb51
    replace hbel := hbel.trans (hb51.mono hbel.size)
    clear m1 m2
    go_wp2_with fail
    refine (Hv.mul hG hC (by omega) (by omega)).mono ?_
    rintro e w52 ⟨z52, A52, c52, rfl, m4, hb52⟩
    replace hA := hA.next hb52
    replace hB := hB.next hb52
    replace hC := hC.next hb52
    replace m3 := m3.next hb52
    replace hbel := hbel.trans (hb52.mono hbel.size)
    clear hG
    go_wp2_with fail
    refine (Hv.equal m3 m4 (by omega) (by omega) (by rw [Hg.out]; exact Nat.gcd_mul_right a d b)).mono ?_
    rintro e w53 ⟨rfl, hb53⟩
    replace hA := hA.next hb53
    replace hB := hB.next hb53
    replace hC := hC.next hb53
    replace hbel := hbel.trans (hb53.mono hbel.size)
    clear m3
    clear m4
    by_cases hb0 : b = 0
    · have e5 : (if b = 0 then (5 : Int) else 0) = 5 := if_pos hb0
      have hdv := Hv.div hA hB (by omega) (by omega)
      rw [e5] at hdv
      have Hdv := Lib.hid hdv
      clear hdv e5
      go_wp2_with fail
      refine Hdv.out.mono ?_
      rintro e w54 ⟨q54, r54, A54, c54, B54, d54, rfl, hQ, hR, hb54⟩
      replace hA := hA.next hb54
      replace hB := hB.next hb54
      replace hC := hC.next hb54
      replace hbel := hbel.trans (hb54.mono hbel.size)
      clear Hdv
      clear hQ hR
      go_wp2_with fail
      refine (Hv.sqrt hA (by omega)).mono ?_
      rintro e w55 ⟨s, hs, z55, A55, c55, rfl, hS, hb55⟩
      replace hA := hA.next hb55
      replace hB := hB.next hb55
      replace hC := hC.next hb55
      replace hbel := hbel.trans (hb55.mono hbel.size)
      have O1 : Hid (∀ W : World, Calls Tryd.prog 12 #[.int .u64 1] W fun e w' => HvOut W w' 1 1 e) := fun W => (of_any 1 (by omega) W).mono fun e w' ⟨zs, A', c', q1, q2, q3, q4⟩ => ⟨zs, A', c', q1, Hv.of q2 q3 (by decide), q4⟩
      go_wp2_with fail
      refine (O1.out _).mono ?_
      rintro e w56 ⟨z56, A56, c56, rfl, hO, hb56⟩
      replace hA := hA.next hb56
      replace hB := hB.next hb56
      replace hC := hC.next hb56
      replace hS := hS.next hb56
      replace hbel := hbel.trans (hb56.mono hbel.size)
      clear O1
      go_wp2_with fail
      refine (Hv.add hS hO (by omega) (by omega)).mono ?_
      rintro e w57 ⟨z57, A57, c57, rfl, hU, hb57⟩
      replace hA := hA.next hb57
      replace hB := hB.next hb57
      replace hC := hC.next hb57
      replace hS := hS.next hb57
      replace hbel := hbel.trans (hb57.mono hbel.size)
      clear hO
      go_wp2_with fail
      refine (Hv.mul hS hS (by omega) (by omega)).mono ?_
      rintro e w58 ⟨z58, A58, c58, rfl, hV, hb58⟩
      replace hA := hA.next hb58
      replace hB := hB.next hb58
      replace hC := hC.next hb58
      replace hS := hS.next hb58
      replace hU := hU.next hb58
      replace hbel := hbel.trans (hb58.mono hbel.size)
      have t59 : decide (cmpN (s * s) a ≤ 0) = true := by
        have := hs.1
        unfold cmpN; split <;> first | rfl | (rw [if_neg (by omega)]; rfl)
      go_wp2_with fail
      refine (Hv.cmp hV hA (by omega) (by omega)).mono ?_
      rintro e w59 ⟨rfl, hb59⟩
      replace hA := hA.next hb59
      replace hB := hB.next hb59
      replace hC := hC.next hb59
      replace hU := hU.next hb59
      replace hbel := hbel.trans (hb59.mono hbel.size)
      clear hV
      clear hS
      go_wp2_with (simp only [])
      refine (Hv.mul hU hU (by omega) (by omega)).mono ?_
      rintro e w60 ⟨z60, A60, c60, rfl, hT9, hb60⟩
      replace hA := hA.next hb60
      replace hB := hB.next hb60
      replace hC := hC.next hb60
      replace hbel := hbel.trans (hb60.mono hbel.size)
      clear hU
      have t61 : decide (0 < cmpN ((s + 1) * (s + 1)) a) = true := by
        have := hs.2
        unfold cmpN; rw [if_neg (by omega), if_pos (by omega)]; rfl
      go_wp2_with fail
      refine (Hv.cmp hT9 hA (by omega) (by omega)).mono ?_
      rintro e w61 ⟨rfl, hb61⟩
      replace hA := hA.next hb61
      replace hB := hB.next hb61
      replace hC := hC.next hb61
      replace hbel := hbel.trans (hb61.mono hbel.size)
      clear hT9
      go_wp2_with (first | simp only [] | (go_at_call 22; (with_reducible refine (lives_any _).mono ?_); rintro e wz ⟨rfl, hbz⟩))
      go_ret
      exact ⟨rfl, hbel.trans (hbz.mono hbel.size)⟩
    · have e5 : (if b = 0 then (5 : Int) else 0) = 0 := if_neg hb0
      have hdv := Hv.div hA hB (by omega) (by omega)
      rw [e5] at hdv
      have Hdv := Lib.hid hdv
      clear hdv e5
      go_wp2_with fail
      refine Hdv.out.mono ?_
      rintro e w62 ⟨q62, r62, A62, c62, B62, d62, rfl, hQ, hR, hb62⟩
      replace hA := hA.next hb62
      replace hB := hB.next hb62
      replace hC := hC.next hb62
      replace hbel := hbel.trans (hb62.mono hbel.size)
      clear Hdv
      rw [if_neg hb0] at hR
      go_wp2_with fail
      refine (Hv.mul hQ hB (by omega) (by omega)).mono ?_
      rintro e w63 ⟨z63, A63, c63, rfl, k1, hb63⟩
      replace hA := hA.next hb63
      replace hB := hB.next hb63
      replace hC := hC.next hb63
      replace hR := hR.next hb63
      replace hbel := hbel.trans (hb63.mono hbel.size)
      clear hQ
      go_wp2_with fail
      refine (Hv.add k1 hR (by omega) (by omega)).mono ?_
      rintro e w64 ⟨z64, A64, c64, rfl, k2, hb64⟩
      replace hA := hA.next hb64
      replace hB := hB.next hb64
      replace hC := hC.next hb64
      replace hR := hR.next hb64
      replace hbel := hbel.trans (hb64.mono hbel.size)
      clear k1
      go_wp2_with fail
      refine (Hv.equal k2 hA (by omega) (by omega) (by rw [Nat.mul_comm]; exact Nat.div_add_mod a b)).mono ?_
      rintro e w65 ⟨rfl, hb65⟩
      replace hA := hA.next hb65
      replace hB := hB.next hb65
      replace hC := hC.next hb65
      replace hR := hR.next hb65
      replace hbel := hbel.trans (hb65.mono hbel.size)
      clear k2
      have tc : decide (0 ≤ cmpN (a % b) b) = false := by
        have := Nat.mod_lt a (Nat.pos_of_ne_zero hb0)
        unfold cmpN; rw [if_pos this]; rfl
      go_wp2_with fail
      refine (Hv.cmp hR hB (by omega) (by omega)).mono ?_
      rintro e w66 ⟨rfl, hb66⟩
      replace hA := hA.next hb66
      replace hB := hB.next hb66
      replace hC := hC.next hb66
      replace hbel := hbel.trans (hb66.mono hbel.size)
      clear hR
      go_wp2_with (simp only [])
      refine (Hv.sqrt hA (by omega)).mono ?_
      rintro e w67 ⟨s, hs, z67, A67, c67, rfl, hS, hb67⟩
      replace hA := hA.next hb67
      replace hB := hB.next hb67
      replace hC := hC.next hb67
      replace hbel := hbel.trans (hb67.mono hbel.size)
      have O1 : Hid (∀ W : World, Calls Tryd.prog 12 #[.int .u64 1] W fun e w' => HvOut W w' 1 1 e) := fun W => (of_any 1 (by omega) W).mono fun e w' ⟨zs, A', c', q1, q2, q3, q4⟩ => ⟨zs, A', c', q1, Hv.of q2 q3 (by decide), q4⟩
      go_wp2_with fail
      refine (O1.out _).mono ?_
      rintro e w68 ⟨z68, A68, c68, rfl, hO, hb68⟩
      replace hA := hA.next hb68
      replace hB := hB.next hb68
      replace hC := hC.next hb68
      replace hS := hS.next hb68
      replace hbel := hbel.trans (hb68.mono hbel.size)
      clear O1
      go_wp2_with fail
      refine (Hv.add hS hO (by omega) (by omega)).mono ?_
      rintro e w69 ⟨z69, A69, c69, rfl, hU, hb69⟩
      replace hA := hA.next hb69
      replace hB := hB.next hb69
      replace hC := hC.next hb69
      replace hS := hS.next hb69
      replace hbel := hbel.trans (hb69.mono hbel.size)
      clear hO
      go_wp2_with fail
      refine (Hv.mul hS hS (by omega) (by omega)).mono ?_
      rintro e w70 ⟨z70, A70, c70, rfl, hV, hb70⟩
      replace hA := hA.next hb70
      replace hB := hB.next hb70
      replace hC := hC.next hb70
      replace hS := hS.next hb70
      replace hU := hU.next hb70
      replace hbel := hbel.trans (hb70.mono hbel.size)
      have t71 : decide (cmpN (s * s) a ≤ 0) = true := by
        have := hs.1
        unfold cmpN; split <;> first | rfl | (rw [if_neg (by omega)]; rfl)
      go_wp2_with fail
      refine (Hv.cmp hV hA (by omega) (by omega)).mono ?_
      rintro e w71 ⟨rfl, hb71⟩
      replace hA := hA.next hb71
      replace hB := hB.next hb71
      replace hC := hC.next hb71
      replace hU := hU.next hb71
      replace hbel := hbel.trans (hb71.mono hbel.size)
      clear hV
      clear hS
      go_wp2_with (simp only [])
      refine (Hv.mul hU hU (by omega) (by omega)).mono ?_
      rintro e w72 ⟨z72, A72, c72, rfl, hT9, hb72⟩
      replace hA := hA.next hb72
      replace hB := hB.next hb72
      replace hC := hC.next hb72
      replace hbel := hbel.trans (hb72.mono hbel.size)
      clear hU
      have t73 : decide (0 < cmpN ((s + 1) * (s + 1)) a) = true := by
        have := hs.2
        unfold cmpN; rw [if_neg (by omega), if_pos (by omega)]; rfl
      go_wp2_with fail
      refine (Hv.cmp hT9 hA (by omega) (by omega)).mono ?_
      rintro e w73 ⟨rfl, hb73⟩
      replace hA := hA.next hb73
      replace hB := hB.next hb73
      replace hC := hC.next hb73
      replace hbel := hbel.trans (hb73.mono hbel.size)
      clear hT9
      go_wp2_with (first | simp only [] | (go_at_call 22; (with_reducible refine (lives_any _).mono ?_); rintro e wz ⟨rfl, hbz⟩))
      go_ret
      exact ⟨rfl, hbel.trans (hbz.mono hbel.size)⟩
end Go.Proofs.YtogkfpbapjjgfaaDoor
