/- The contracts of the laws' own of, same and lives. No conditions beyond the sizes. -/
import Derived.Test.YtanlejlmckdeiaaGreatDoorPkZk32
import Derived.Test.YtanlejlmckdeiaaGreatDoorPkZk25
namespace Go.Proofs.YtanlejlmckdeiaaGreatDoor
open Go.RowKit

set_option maxHeartbeats 800000 in
theorem lof_any (n : Int) (h1 : -9223372036854775808 ≤ n) (h2 : n ≤ 9223372036854775807) (w : World) : Calls Tryz.prog 33 #[.int .i64 n] w fun e w' => ZOut w w' n e := by
  have k0 := bel_one w (.cells #[.bool false, .slice none 0 0] 28)
  have b1 := blk_one w (.bool false) (.slice none 0 0)
  have O1 := Lib.hid (rzof_any n h1 h2)
  clear h1 h2
  go_enter Tryz.func33, Tryz.ntmps33
  go_wp2_with fail
  refine (O1.out _).mono ?_
  rintro e w1 ⟨zs, A', c', rfl, hz, hr, hb⟩
  have hsz := k0.size
  replace b1 := b1.below hb b1.lt
  obtain ⟨q0, q1, q2, q3⟩ := b1.two
  go_wp2_with fail
  exact zretT (bst k0 hb (Nat.le_refl _)) b1 (by omega) hz (hr.mono hsz) rfl rfl rfl rfl
set_option maxHeartbeats 800000 in
theorem lsame_any {w : World} {A A2 : Option Addr} {c c2 : Nat} {xs : List Nat} (b : Bool) (hr : Rd w w.heap.size A (u32s xs)) (hr2 : Rd w w.heap.size A2 (u32s xs)) (hm : xs.length ≤ 281474976710656) :
    Calls Tryz.prog 7 #[.agg #[.bool b, .slice A xs.length c], .agg #[.bool b, .slice A2 xs.length c2]] w fun e w' => e = .returned (.bool true) ∧ Below w.heap.size w w' := by
  have S1 : Hid (∀ W (_ : Below w.heap.size w W), Calls Tryz.prog 36 #[.agg #[.bool b, .slice A xs.length c], .agg #[.bool b, .slice A2 xs.length c2]] W fun e w' => e = .returned (.bool true) ∧ Below W.heap.size W w') := fun W hW => zsame_yes b ((hr.below hW).mono hW.size) ((hr2.below hW).mono hW.size) hm
  clear hr hr2
  go_enter Tryz.func7, Tryz.ntmps7
  go_wp2_with fail
  refine (S1.out _ (bel_two _ _ _)).mono ?_
  rintro e w1 ⟨rfl, hb⟩
  go_wp2_with fail
  go_ret
  exact ⟨rfl, bst (bel_two _ _ _) hb (Nat.le_refl _)⟩
/-- Two integers in normal form that are the same number. -/
theorem Zn.same {w : World} {A A2 : Option Addr} {c c2 K J : Nat} {xs ys : List Nat} {z y : Int} (h : Zn w A c xs z K) (h2 : Zn w A2 c2 ys y J) (e : z = y) (hK : K ≤ 281474976710656) :
    Calls Tryz.prog 7 #[.agg #[.bool (isNeg z), .slice A xs.length c], .agg #[.bool (isNeg y), .slice A2 ys.length c2]] w fun e w' => e = .returned (.bool true) ∧ Below w.heap.size w w' := by
  subst e
  have e2 := Num.unique (by omega) h.num h2.num
  subst e2
  exact lsame_any _ h.rd h2.rd (by have := h.len; omega)

set_option maxHeartbeats 6400000 in
theorem zlives_any (w : World) : Calls Tryz.prog 17 #[] w fun e w' => e = .returned (.bool true) ∧ Below w.heap.size w w' := by
  go_enter Tryz.func17, Tryz.ntmps17
  go_wp2_with fail
  refine (lof_any (-7) (by decide) (by decide) _).mono ?_
  rintro e w1 ⟨xa, Aa, ca, rfl, hza, hra, hb1⟩
  have za : Zn w1 Aa ca xa (-7) 1 := Zn.shrink hza hra (by decide)
  go_wp2_with fail
  refine (lof_any (-2) (by decide) (by decide) _).mono ?_
  rintro e w2 ⟨xb, Ab, cb, rfl, hzb, hrb, hb2⟩
  have zb : Zn w2 Ab cb xb (-2) 1 := Zn.shrink hzb hrb (by decide)
  have E1 := Zh.euclid (za.next hb2).zh zb.zh (by omega) (by omega)
  rw [show euQ (-7) (-2) = 4 from by decide, show euR (-7) (-2) = 1 from by decide, show euE (-2) = 0 from by decide] at E1
  have E1 := Lib.hid E1
  have k2 : Below w.heap.size w w2 := bst hb1 hb2 (Nat.le_refl _)
  clear za zb hza hra hzb hrb hb1 hb2
  go_wp2_with fail
  refine E1.out.mono ?_
  rintro e w3 ⟨qs, rs, A1, c1, A3, c3, rfl, hq, hr, rq, rr, hb3⟩
  have zq : Zn w3 A1 c1 qs 4 1 := Zn.shrink hq rq (by decide)
  have zr : Zn w3 A3 c3 rs 1 1 := Zn.shrink hr rr (by decide)
  have k3 : Below w.heap.size w w3 := bst k2 hb3 (Nat.le_refl _)
  clear hq hr rq rr hb3 E1 k2
  go_wp2_with fail
  obtain ⟨v1, v2⟩ := blk_pair2 w3 (.bool (isNeg 4)) (.slice A1 qs.length c1) (.bool (isNeg 1)) (.slice A3 rs.length c3)
  have j3 := bel_two w3 (.cells #[.bool (isNeg 4), .slice A1 qs.length c1] 28) (.cells #[.bool (isNeg 1), .slice A3 rs.length c3] 28)
  obtain ⟨g1, hg1⟩ : ∃ g, g = w3.heap.size := ⟨_, rfl⟩
  refine (lof_any (-5) (by decide) (by decide) _).mono ?_
  rintro e w4 ⟨xa, Aa, ca, rfl, hza, hra, hb4⟩
  have za : Zn w4 Aa ca xa (-5) 1 := Zn.shrink hza hra (by decide)
  replace zq := (zq.next j3).next hb4
  replace zr := (zr.next j3).next hb4
  replace v1 := v1.below hb4 v1.lt
  replace v2 := v2.below hb4 v2.lt
  replace k3 := bst (bst k3 j3 (Nat.le_refl _)) hb4 (Nat.le_refl _)
  rw [← hg1] at v1 v2 ⊢
  clear hg1 hb4 j3 hza hra
  go_wp2_with fail
  refine (lof_any 2 (by decide) (by decide) _).mono ?_
  rintro e w2 ⟨xb, Ab, cb, rfl, hzb, hrb, hb2⟩
  have zb : Zn w2 Ab cb xb 2 1 := Zn.shrink hzb hrb (by decide)
  replace zq := zq.next hb2
  replace zr := zr.next hb2
  replace v1 := v1.below hb2 v1.lt
  replace v2 := v2.below hb2 v2.lt
  replace k3 := bst k3 hb2 (Nat.le_refl _)
  have N1 := Zh.near (za.next hb2).zh zb.zh (by omega) (by omega)
  rw [show nrQ (-5) 2 = -2 from by decide, show nrE 2 = 0 from by decide] at N1
  have N1 := Lib.hid N1
  clear za zb hzb hrb hb2
  go_wp2_with fail
  refine N1.out.mono ?_
  rintro e w6 ⟨ns, A5, c5, rfl, hn, rn, hb6⟩
  have zn : Zn w6 A5 c5 ns (-2) 1 := Zn.shrink hn rn (by decide)
  replace zq := zq.next hb6
  replace zr := zr.next hb6
  replace v1 := v1.below hb6 v1.lt
  replace v2 := v2.below hb6 v2.lt
  replace k3 := bst k3 hb6 (Nat.le_refl _)
  clear hn rn hb6 N1
  go_wp2_with fail
  have v4 := blk_one w6 (.bool (isNeg (-2))) (.slice A5 ns.length c5)
  have j6 := bel_one w6 (.cells #[.bool (isNeg (-2)), .slice A5 ns.length c5] 28)
  obtain ⟨w5, hw5⟩ : ∃ w5, w5 = w6.alloc (.cells #[.bool (isNeg (-2)), .slice A5 ns.length c5] 28) := ⟨_, rfl⟩
  obtain ⟨g4, hg4⟩ : ∃ g, g = w6.heap.size := ⟨_, rfl⟩
  replace v1 := v1.below j6 v1.lt
  replace v2 := v2.below j6 v2.lt
  have ZQ' := Lib.hid (zq.next j6)
  have ZR' := Lib.hid (zr.next j6)
  have ZN' := Lib.hid (zn.next j6)
  have K5 := Lib.hid (bst k3 j6 (Nat.le_refl _))
  rw [← hw5] at v1 v2 v4 ZQ' ZR' ZN' K5 ⊢
  rw [← hg4] at v4 ⊢
  clear hw5 hg4 zq zr zn k3 j6
  have SM1 : Hid (∀ (zo : List Nat) (Ao : Option Addr) (co B9 : Nat) (wo W : World), Below w5.heap.size w5 W → Num 4294967296 zo (4 : Int).natAbs → Res wo B9 61 Ao co (u32s zo) → Below wo.heap.size wo W → Calls Tryz.prog 7 #[.agg #[.bool (isNeg 4), .slice A1 qs.length c1], .agg #[.bool (isNeg 4), .slice Ao zo.length co]] W fun e w' => e = .returned (.bool true) ∧ Below W.heap.size W w') := fun zo Ao co B9 wo W hW hz hr hoW =>
    Zn.same (ZQ'.out.next hW) ((Zn.shrink (K := 1) hz hr (by decide)).next hoW) rfl (by omega)
  have SM2 : Hid (∀ (zo : List Nat) (Ao : Option Addr) (co B9 : Nat) (wo W : World), Below w5.heap.size w5 W → Num 4294967296 zo (1 : Int).natAbs → Res wo B9 61 Ao co (u32s zo) → Below wo.heap.size wo W → Calls Tryz.prog 7 #[.agg #[.bool (isNeg 1), .slice A3 rs.length c3], .agg #[.bool (isNeg 1), .slice Ao zo.length co]] W fun e w' => e = .returned (.bool true) ∧ Below W.heap.size W w') := fun zo Ao co B9 wo W hW hz hr hoW =>
    Zn.same (ZR'.out.next hW) ((Zn.shrink (K := 1) hz hr (by decide)).next hoW) rfl (by omega)
  have SM4 : Hid (∀ (zo : List Nat) (Ao : Option Addr) (co B9 : Nat) (wo W : World), Below w5.heap.size w5 W → Num 4294967296 zo ((-2) : Int).natAbs → Res wo B9 61 Ao co (u32s zo) → Below wo.heap.size wo W → Calls Tryz.prog 7 #[.agg #[.bool (isNeg (-2)), .slice A5 ns.length c5], .agg #[.bool (isNeg (-2)), .slice Ao zo.length co]] W fun e w' => e = .returned (.bool true) ∧ Below W.heap.size W w') := fun zo Ao co B9 wo W hW hz hr hoW =>
    Zn.same (ZN'.out.next hW) ((Zn.shrink (K := 1) hz hr (by decide)).next hoW) rfl (by omega)
  have V1 := Lib.hid v1
  have V2 := Lib.hid v2
  have V4 := Lib.hid v4
  obtain ⟨p0, p1, _, _⟩ := v1.two
  obtain ⟨q0, q1, _, _⟩ := v2.two
  obtain ⟨r0, r1, _, _⟩ := v4.two
  clear v1 v2 v4 ZQ' ZR' ZN'
  go_region_held3 (fun W => W.cell? ⟨g1, 0, none⟩ = some (.bool (isNeg 4)) ∧ W.cell? ⟨g1, 1, none⟩ = some (.slice A1 qs.length c1) ∧ W.cell? ⟨g1 + 1, 0, none⟩ = some (.bool (isNeg 1)) ∧ W.cell? ⟨g1 + 1, 1, none⟩ = some (.slice A3 rs.length c3) ∧ W.cell? ⟨g4, 0, none⟩ = some (.bool (isNeg (-2))) ∧ W.cell? ⟨g4, 1, none⟩ = some (.slice A5 ns.length c5)) (go_keep) (first
    | (go_at_call 33; (with_reducible refine (lof_any (4 : Int) (by decide) (by decide) _).mono ?_); rintro e wa ⟨za, Aa, ca, rfl, hza, hra, hba⟩; have ja : Below w5.heap.size w5 wa := bst (by repeat (first | exact Below.refl _ _ | exact ja | exact jb | exact jd | exact js | exact jt | exact ju | apply bdw | (refine bdn ?_ _) | (refine bal ?_ (Nat.le_refl _) _))) hba (Nat.le_refl _); obtain ⟨x0a, y0a, _, _⟩ := (V1.out.below ja V1.out.lt).two; obtain ⟨x1a, y1a, _, _⟩ := (V2.out.below ja V2.out.lt).two; obtain ⟨x2a, y2a, _, _⟩ := (V4.out.below ja V4.out.lt).two)
    | (go_at_call 33; (with_reducible refine (lof_any (1 : Int) (by decide) (by decide) _).mono ?_); rintro e wb ⟨zb, Ab, cb, rfl, hzb, hrb, hbb⟩; have jb : Below w5.heap.size w5 wb := bst (by repeat (first | exact Below.refl _ _ | exact ja | exact jb | exact jd | exact js | exact jt | exact ju | apply bdw | (refine bdn ?_ _) | (refine bal ?_ (Nat.le_refl _) _))) hbb (Nat.le_refl _); obtain ⟨x0b, y0b, _, _⟩ := (V1.out.below jb V1.out.lt).two; obtain ⟨x1b, y1b, _, _⟩ := (V2.out.below jb V2.out.lt).two; obtain ⟨x2b, y2b, _, _⟩ := (V4.out.below jb V4.out.lt).two)
    | (go_at_call 33; (with_reducible refine (lof_any (-2 : Int) (by decide) (by decide) _).mono ?_); rintro e wd ⟨zd, Ad, cd, rfl, hzd, hrd, hbd⟩; have jd : Below w5.heap.size w5 wd := bst (by repeat (first | exact Below.refl _ _ | exact ja | exact jb | exact jd | exact js | exact jt | exact ju | apply bdw | (refine bdn ?_ _) | (refine bal ?_ (Nat.le_refl _) _))) hbd (Nat.le_refl _); obtain ⟨x0d, y0d, _, _⟩ := (V1.out.below jd V1.out.lt).two; obtain ⟨x1d, y1d, _, _⟩ := (V2.out.below jd V2.out.lt).two; obtain ⟨x2d, y2d, _, _⟩ := (V4.out.below jd V4.out.lt).two)
    | (go_at_call 7; (with_reducible refine (SM1.out za Aa ca _ wa _ (by repeat (first | exact Below.refl _ _ | exact ja | exact jb | exact jd | exact js | exact jt | exact ju | apply bdw | (refine bdn ?_ _) | (refine bal ?_ (Nat.le_refl _) _))) hza hra (by first | exact Below.refl _ _ | exact bdw (Below.refl _ _))).mono ?_); rintro e ws ⟨rfl, hbs⟩; have js : Below w5.heap.size w5 ws := bst (by repeat (first | exact Below.refl _ _ | exact ja | exact jb | exact jd | exact js | exact jt | exact ju | apply bdw | (refine bdn ?_ _) | (refine bal ?_ (Nat.le_refl _) _))) hbs (Nat.le_refl _); obtain ⟨x0s, y0s, _, _⟩ := (V1.out.below js V1.out.lt).two; obtain ⟨x1s, y1s, _, _⟩ := (V2.out.below js V2.out.lt).two; obtain ⟨x2s, y2s, _, _⟩ := (V4.out.below js V4.out.lt).two)
    | (go_at_call 7; (with_reducible refine (SM2.out zb Ab cb _ wb _ (by repeat (first | exact Below.refl _ _ | exact ja | exact jb | exact jd | exact js | exact jt | exact ju | apply bdw | (refine bdn ?_ _) | (refine bal ?_ (Nat.le_refl _) _))) hzb hrb (by first | exact Below.refl _ _ | exact bdw (Below.refl _ _))).mono ?_); rintro e wt ⟨rfl, hbt⟩; have jt : Below w5.heap.size w5 wt := bst (by repeat (first | exact Below.refl _ _ | exact ja | exact jb | exact jd | exact js | exact jt | exact ju | apply bdw | (refine bdn ?_ _) | (refine bal ?_ (Nat.le_refl _) _))) hbt (Nat.le_refl _); obtain ⟨x0t, y0t, _, _⟩ := (V1.out.below jt V1.out.lt).two; obtain ⟨x1t, y1t, _, _⟩ := (V2.out.below jt V2.out.lt).two; obtain ⟨x2t, y2t, _, _⟩ := (V4.out.below jt V4.out.lt).two)
    | (go_at_call 7; (with_reducible refine (SM4.out zd Ad cd _ wd _ (by repeat (first | exact Below.refl _ _ | exact ja | exact jb | exact jd | exact js | exact jt | exact ju | apply bdw | (refine bdn ?_ _) | (refine bal ?_ (Nat.le_refl _) _))) hzd hrd (by first | exact Below.refl _ _ | exact bdw (Below.refl _ _))).mono ?_); rintro e wu ⟨rfl, hbu⟩; have ju : Below w5.heap.size w5 wu := bst (by repeat (first | exact Below.refl _ _ | exact ja | exact jb | exact jd | exact js | exact jt | exact ju | apply bdw | (refine bdn ?_ _) | (refine bal ?_ (Nat.le_refl _) _))) hbu (Nat.le_refl _); obtain ⟨x0u, y0u, _, _⟩ := (V1.out.below ju V1.out.lt).two; obtain ⟨x1u, y1u, _, _⟩ := (V2.out.below ju V2.out.lt).two; obtain ⟨x2u, y2u, _, _⟩ := (V4.out.below ju V4.out.lt).two))
  all_goals
    go_wp2_with fail
    go_ret
    exact ⟨rfl, bst K5.out ju (Nat.le_refl _)⟩
end Go.Proofs.YtanlejlmckdeiaaGreatDoor
