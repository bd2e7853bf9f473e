/- The contracts of zint's Of and Near. Conditions: at most 2^26 limbs. -/
import Derived.Test.YtanlejlmckdeiaaGreatDoorPkZk30
namespace Go.Proofs.YtanlejlmckdeiaaGreatDoor
open Go.RowKit

set_option maxHeartbeats 800000 in
theorem zof_any (n : Int) (h1 : -9223372036854775808 ≤ n) (h2 : n ≤ 9223372036854775807) (w : World) : Calls Tryz.prog 51 #[.int .i64 n] w fun e w' => ZOut w w' n e := by
  have k0 := bel_one w (.cells #[.bool false, .slice none 0 0] 28)
  have b1 := blk_one w (.bool false) (.slice none 0 0)
  by_cases h0 : 0 ≤ n
  · obtain ⟨k, rfl⟩ := Int.eq_ofNat_of_zero_le h0
    have N1 := Lib.hid (of_any k (by omega))
    clear h0
    go_enter Tryz.func51, Tryz.ntmps51
    go_wp2_with fail
    refine (N1.out _).mono ?_
    rintro e w1 ⟨zs, A', c', rfl, hz, hr, hb⟩
    have hsz := k0.size
    have k1 := bst k0 hb (Nat.le_refl _)
    replace b1 := b1.below hb b1.lt
    go_wp2_with fail
    refine (made_num false (k : Int) hz rfl _ (res_len hr)).mono ?_
    rintro e w2 ⟨rfl, hb2⟩
    replace b1 := b1.below hb2 b1.lt
    obtain ⟨q0, q1, q2, q3⟩ := b1.two
    go_wp2_with fail
    exact zretT (z := (k : Int)) (bst k1 hb2 (Nat.le_refl _)) b1 (by omega) (num_eq hz (by omega)) ((hr.mono hsz).below hb2 (Nat.le_refl _)) rfl rfl rfl rfl
  · obtain ⟨k, rfl⟩ : ∃ k : Nat, n = -(k : Int) := ⟨(-n).toNat, by omega⟩
    have hk : 0 < k := by omega
    have hk2 : k ≤ 9223372036854775808 := by omega
    have N1 := Lib.hid (of_any k (by omega))
    have e1 : IntKind.u64.wrap (-IntKind.u64.wrap (-(k : Int))) = (k : Int) := by
      rw [IntKind.wrap_u64, IntKind.wrap_u64]; omega
    have E1 := Lib.hid e1
    clear h0 h1 h2 e1
    go_enter Tryz.func51, Tryz.ntmps51
    go_wp2_with fail
    rw [E1.out]
    refine (N1.out _).mono ?_
    rintro e w1 ⟨zs, A', c', rfl, hz, hr, hb⟩
    have hsz := k0.size
    have k1 := bst k0 hb (Nat.le_refl _)
    replace b1 := b1.below hb b1.lt
    go_wp2_with fail
    refine (made_num true (-(k : Int)) hz rfl _ (res_len hr)).mono ?_
    rintro e w2 ⟨rfl, hb2⟩
    replace b1 := b1.below hb2 b1.lt
    obtain ⟨q0, q1, q2, q3⟩ := b1.two
    go_wp2_with fail
    exact zretT (z := -(k : Int)) (bst k1 hb2 (Nat.le_refl _)) b1 (by omega) (num_eq hz (by omega)) ((hr.mono hsz).below hb2 (Nat.le_refl _)) rfl rfl rfl rfl

theorem sign_range (z : Int) : -9223372036854775808 ≤ z.sign ∧ z.sign ≤ 9223372036854775807 := by
  rcases sign_cases z with ⟨a, b⟩ | ⟨a, b⟩ | ⟨a, b⟩ <;> omega
theorem bit0_any {w : World} {A : Option Addr} {c n K : Nat} {xs : List Nat} (h : Hv w A c xs n K) (hK : K ≤ 67108864) : Calls Tryz.prog 62 #[.slice A xs.length c, .int .i64 0] w fun e w' => e = .returned (.int .u64 ((n % 2 : Nat) : Int)) ∧ Dr w w' := by
  have hl := h.len
  have h9 := bit_any A c xs 0 w w.heap.size h.rd h.dig (by omega) (by omega)
  have e1 : bitOf xs 0 = n % 2 := by
    have hv := h.val_
    unfold bitOf bitAt
    rw [if_neg (by omega)]
    cases xs with
    | nil => rw [← hv]; rfl
    | cons x t =>
      rw [← hv]
      simp only [val]
      have : at0 (x :: t) (Int.toNat 0 / 32) = x := rfl
      rw [this]
      show x / 2 ^ 0 % 2 = _
      rw [Nat.pow_zero, Nat.div_one, show (4294967296 : Nat) * val 4294967296 t = 2 * (2147483648 * val 4294967296 t) from by omega, Nat.add_mul_mod_self_left]
  rwa [e1] at h9
def nrE (y : Int) : Int := if y = 0 then 5 else 0
def nrQ (z y : Int) : Int := if y = 0 then 0 else nearZ z y
section
variable {w : World} {g g2 : Bool} {A A2 : Option Addr} {c c2 K J : Nat} {xs ys : List Nat} {z y : Int}
set_option maxHeartbeats 1600000 in
theorem near_nought (h : Zh w g A c xs z K) (h2 : Zh w g2 A2 c2 ys 0 J) (hK : K ≤ 67108864) (hJ : J ≤ 67108864) :
    Calls Tryz.prog 31 #[.agg #[.bool g, .slice A xs.length c], .agg #[.bool g2, .slice A2 ys.length c2]] w fun e w' => ZE w w' 0 5 e := by
  have D1 : Hid (∀ W (_ : Below w.heap.size w W), Calls Tryz.prog 29 #[.agg #[.bool g, .slice A xs.length c], .agg #[.bool g2, .slice A2 ys.length c2]] W fun e w' => ZQ W w' (euQ z 0) (euR z 0) 5 e) := fun W hW => (h.next hW).euclid (h2.next hW) hK hJ
  obtain ⟨b0, b1, b2⟩ := blk_three w (.bool g) (.slice A xs.length c) (.bool g2) (.slice A2 ys.length c2) (.bool false) (.slice none 0 0)
  have k0 := bel_three w (.cells #[.bool g, .slice A xs.length c] 28) (.cells #[.bool g2, .slice A2 ys.length c2] 28) (.cells #[.bool false, .slice none 0 0] 28)
  clear h h2
  go_enter Tryz.func31, Tryz.ntmps31
  go_wp2_with fail
  refine (D1.out _ k0).mono ?_
  rintro e w1 ⟨qs, rs, A1, c1, A3, c3, rfl, hq, hr, rq, rr, hb1⟩
  have k1 := bst k0 hb1 (Nat.le_refl _)
  replace b2 := b2.below hb1 b2.lt
  have hz : w.heap.size + 1 + 1 < w1.heap.size := b2.lt
  obtain ⟨p0, p1, p2, p3⟩ := b2.two
  obtain ⟨p4, p5, p6, p7⟩ := ((b2.heapAlloc (.cells #[.bool (isNeg (euQ z 0)), .slice A1 qs.length c1] 28)).heapAlloc (.cells #[.bool (isNeg (euR z 0)), .slice A3 rs.length c3] 28)).two
  go_wp2_with fail
  exact ze_ret (qs := []) (bal (bal k1 (Nat.le_refl _) _) (Nat.le_refl _) _) ((b2.heapAlloc _).heapAlloc _) (by omega) (Num.zero_ _) Res.none_ rfl rfl rfl rfl rfl

set_option maxHeartbeats 3200000 in
theorem near_gt (h : Zh w g A c xs z K) (h2 : Zh w g2 A2 c2 ys y J) (hy : y ≠ 0) (hK : K ≤ 67108864) (hJ : J ≤ 67108863) (hc : cmpN (2 * (z % y).natAbs) y.natAbs = 1) :
    Calls Tryz.prog 31 #[.agg #[.bool g, .slice A xs.length c], .agg #[.bool g2, .slice A2 ys.length c2]] w fun e w' => ZE w w' (z / y + y.sign) 0 e := by
  have D1 : Hid (∀ W (_ : Below w.heap.size w W), Calls Tryz.prog 29 #[.agg #[.bool g, .slice A xs.length c], .agg #[.bool g2, .slice A2 ys.length c2]] W fun e w' => ZQ W w' (z / y) (z % y) 0 e) := fun W hW => by
    have h9 := (h.next hW).euclid (h2.next hW) hK (by omega)
    rwa [show euQ z y = z / y from rfl, show euR z y = z % y from if_neg hy, show euE y = 0 from if_neg hy] at h9
  obtain ⟨b0, b1, b2⟩ := blk_three w (.bool g) (.slice A xs.length c) (.bool g2) (.slice A2 ys.length c2) (.bool false) (.slice none 0 0)
  have k0 := bel_three w (.cells #[.bool g, .slice A xs.length c] 28) (.cells #[.bool g2, .slice A2 ys.length c2] 28) (.cells #[.bool false, .slice none 0 0] 28)
  have hQl : (z / y).natAbs < 4294967296 ^ K := Nat.lt_of_le_of_lt (Int.natAbs_ediv_le_natAbs z y) h.lt
  have hRl : (z % y).natAbs < 4294967296 ^ J := by
    have := emod_lt_abs' z hy
    have := Int.emod_nonneg z hy
    have := h2.lt
    omega
  have H2 := Lib.hid h2
  clear h h2
  go_enter Tryz.func31, Tryz.ntmps31
  go_wp2_with fail
  refine (D1.out _ k0).mono ?_
  rintro e w1 ⟨qs, rs, A1, c1, A3, c3, rfl, hq, hr, rq, rr, hb1⟩
  have hsz := k0.size
  have k1 := bst k0 hb1 (Nat.le_refl _)
  replace b1 := b1.below hb1 b1.lt
  replace b2 := b2.below hb1 b2.lt
  have s2 : w.heap.size + 1 + 1 < w1.heap.size := b2.lt
  go_upto_region 4 with (fail)
  obtain ⟨w2, hw2⟩ : ∃ w2, w2 = (w1.alloc (.cells #[.bool (isNeg (z / y)), .slice A1 qs.length c1] 28)).alloc (.cells #[.bool (isNeg (z % y)), .slice A3 rs.length c3] 28) := ⟨_, rfl⟩
  rw [← hw2]
  have j2 : Below w1.heap.size w1 w2 := by rw [hw2]; exact bal (bal (Below.refl _ _) (Nat.le_refl _) _) (Nat.le_refl _) _
  obtain ⟨b6, b7⟩ : Blk w2 w1.heap.size 28 [.bool (isNeg (z / y)), .slice A1 qs.length c1] ∧ Blk w2 (w1.heap.size + 1) 28 [.bool (isNeg (z % y)), .slice A3 rs.length c3] := by rw [hw2]; exact blk_pair2 w1 _ _ _ _
  have k2 := bst k1 j2 (Nat.le_refl _)
  replace b1 := b1.below j2 b1.lt
  replace b2 := b2.below j2 b2.lt
  replace rq := (rq.below j2 (Nat.le_refl _)).mono hsz
  replace rr := (rr.below j2 (Nat.le_refl _)).mono hsz
  have hQ : Zn w2 A1 c1 qs (z / y) K := Zn.shrink hq rq hQl
  have hR : Zn w2 A3 c3 rs (z % y) J := Zn.shrink hr rr hRl
  have h2 := H2.out.next k2
  have AD : Hid (∀ W (_ : Below w2.heap.size w2 W), Calls Tryz.prog 61 #[.slice A3 rs.length c3, .slice A3 rs.length c3] W fun e w' => NOut W w' (2 * (z % y).natAbs) e) := fun W hW => by
    have := Hv.addN (hR.next hW).hv (hR.next hW).hv (by omega) (by omega)
    rwa [← Nat.two_mul] at this
  have CM : Hid (∀ (za : List Nat) (Aa : Option Addr) (ca : Nat) (B9 : Nat) (wa W : World), Below w2.heap.size w2 W → Num 4294967296 za (2 * (z % y).natAbs) → Res wa B9 61 Aa ca (u32s za) → Below wa.heap.size wa W → Calls Tryz.prog 60 #[.slice Aa za.length ca, .slice A2 ys.length c2] W fun e w' => e = .returned (.int .i64 (1)) ∧ Dr W w') := fun za Aa ca B9 wa W hW hza hra haW => by
    have hs : 2 * (z % y).natAbs < 4294967296 ^ (J + 1) := by rw [Nat.pow_succ]; omega
    have h9 := (Hv.of (K := J + 1) hza hra hs).next haW
    have hl1 := h9.len
    have hl2 := h2.hv.len
    have h8 := cmp_any Aa A2 ca c2 za ys W W.heap.size h9.rd (h2.next hW).hv.rd h9.dig h2.hv.dig h9.cap h2.hv.cap (by omega) (by omega)
    rwa [h9.val_, h2.hv.val_, hc] at h8
  have HQ := Lib.hid hQ
  have B1 := Lib.hid b1
  have B6 := Lib.hid b6
  have B7 := Lib.hid b7
  have B2 := Lib.hid b2
  have Hnq := Lib.hid hq
  have Hrq := Lib.hid rq
  have Hc := Lib.hid hc
  have Hy := Lib.hid hy
  obtain ⟨p0, p1, _, _⟩ := b1.two
  obtain ⟨p4, p5, _, _⟩ := b7.two
  clear hb1 D1 hq hr rq rr b0 b1 b2 b6 b7 hQ hR h2 hc hw2 k0 hy hsz
  go_cut [9] (fun v W => v = .int .i64 (1) ∧ Below w2.heap.size w2 W)
  case first =>
    go_region_held3 (fun W => W.cell? ⟨w1.heap.size + 1, 1, none⟩ = some (.slice A3 rs.length c3) ∧ W.cell? ⟨w.heap.size + 1, 1, none⟩ = some (.slice A2 ys.length c2)) (go_keep) (first
      | (go_at_call 61; (with_reducible refine (AD.out _ (by repeat (first | exact Below.refl _ _ | exact ja | apply bdw | (refine bdn ?_ _) | (refine bal ?_ (Nat.le_refl _) _)))).mono ?_); rintro e wa ⟨za, Aa, ca, rfl, hza, hra, hba⟩; have ja : Below w2.heap.size w2 wa := bst (by repeat (first | exact Below.refl _ _ | exact ja | apply bdw | (refine bdn ?_ _) | (refine bal ?_ (Nat.le_refl _) _))) hba (Nat.le_refl _); obtain ⟨x0a, y0a, _, _⟩ := (B7.out.below ja B7.out.lt).two; obtain ⟨x1a, y1a, _, _⟩ := (B1.out.below ja B1.out.lt).two)
      | (go_at_call 60; (with_reducible refine (CM.out za Aa ca _ wa _ (by first | exact ja | exact bdw ja) hza hra (by first | exact Below.refl _ _ | exact bdw (Below.refl _ _))).mono ?_); rintro e wd ⟨rfl, hd⟩; obtain ⟨nd, rfl⟩ := hd))
    all_goals
      go_wp2_with fail
      go_meet
      exact ⟨rfl, by first | exact bdn ja _ | exact bdw (bdn ja _) | exact bdn (bdw ja) _⟩
  case rest =>
    obtain ⟨rfl, jc⟩ := hcut
    clear p0 p1 p4 p5 AD CM
    have kc := bst k2 jc (Nat.le_refl _)
    have b6 := B6.out.below jc B6.out.lt
    have b2c := B2.out.below jc B2.out.lt
    have b1c := B1.out.below jc B1.out.lt
    have B6' := Lib.hid b6
    clear B6 B7
    have B6 := B6'
    have B1' := Lib.hid b1c
    clear B1
    have B1 := B1'
    obtain ⟨p0, p1, p2, p3⟩ := b6.two
    obtain ⟨q0, q1, q2, q3⟩ := b2c.two

    have SG : Hid (∀ W (_ : Below wc.heap.size wc W), Calls Tryz.prog 28 #[.agg #[.bool g2, .slice A2 ys.length c2]] W fun e w' => e = .returned (.int .i64 y.sign) ∧ Below W.heap.size W w') := fun W hW => (H2.out.next (bst kc hW (Nat.le_refl _))).sign (by omega)
    have OF : Hid (∀ W, Calls Tryz.prog 51 #[.int .i64 y.sign] W fun e w' => ZOut W w' y.sign e) := fun W => zof_any y.sign (sign_range y).1 (sign_range y).2 W
    have ADZ : Hid (∀ (zo : List Nat) (Ao : Option Addr) (co : Nat) (B9 : Nat) (wo W : World), Below wc.heap.size wc W → Num 4294967296 zo y.sign.natAbs → Res wo B9 61 Ao co (u32s zo) → Below wo.heap.size wo W → Calls Tryz.prog 22 #[.agg #[.bool (isNeg (z / y)), .slice A1 qs.length c1], .agg #[.bool (isNeg y.sign), .slice Ao zo.length co]] W fun e w' => ZOut W w' (z / y + y.sign) e) := fun zo Ao co B9 wo W hW hzo hro hoW =>
      Zh.add (HQ.out.next (bst jc hW (Nat.le_refl _))).zh ((Zn.shrink (K := 1) hzo hro (by rcases sign_cases y with ⟨a, b⟩ | ⟨a, b⟩ | ⟨a, b⟩ <;> rw [b] <;> decide)).next hoW).zh hK (by omega)
    have B2c := Lib.hid b2c
    obtain ⟨r0, r1, r2, r3⟩ := b1c.two
    have m1 : w.heap.size + 1 + 1 ≠ w1.heap.size := by omega
    have m2 : w1.heap.size ≠ w.heap.size + 1 + 1 := by omega
    have n1 : w1.heap.size ≠ w.heap.size + 1 := by omega
    have n2 : w.heap.size + 1 ≠ w1.heap.size := by omega

    go_wp2_with fail

    go_region_with (first
      | (go_at_call 28; (with_reducible refine (SG.out _ (by repeat (first | exact Below.refl _ _ | exact js | exact jo | exact jm | apply bdw | (refine bdn ?_ _) | (refine bal ?_ (Nat.le_refl _) _)))).mono ?_); rintro e ws ⟨rfl, hbs⟩; have js : Below wc.heap.size wc ws := bst (by repeat (first | exact Below.refl _ _ | exact js | exact jo | exact jm | apply bdw | (refine bdn ?_ _) | (refine bal ?_ (Nat.le_refl _) _))) hbs (Nat.le_refl _); obtain ⟨x0s, y0s, u0s, v0s⟩ := (B6.out.below js B6.out.lt).two; obtain ⟨x1s, y1s, _, _⟩ := (B1.out.below js B1.out.lt).two; obtain ⟨x2s, y2s, u2s, v2s⟩ := (B2c.out.below js B2c.out.lt).two)
      | (go_at_call 51; (with_reducible refine (OF.out _).mono ?_); rintro e wo ⟨zo, Ao, co, rfl, hzo, hro, hbo⟩; have jo : Below wc.heap.size wc wo := bst (by repeat (first | exact Below.refl _ _ | exact js | exact jo | exact jm | apply bdw | (refine bdn ?_ _) | (refine bal ?_ (Nat.le_refl _) _))) hbo (Nat.le_refl _); obtain ⟨x0o, y0o, u0o, v0o⟩ := (B6.out.below jo B6.out.lt).two; obtain ⟨x1o, y1o, _, _⟩ := (B1.out.below jo B1.out.lt).two; obtain ⟨x2o, y2o, u2o, v2o⟩ := (B2c.out.below jo B2c.out.lt).two)
      | (go_at_call 22; (with_reducible refine (ADZ.out zo Ao co _ wo _ (by repeat (first | exact Below.refl _ _ | exact js | exact jo | exact jm | apply bdw | (refine bdn ?_ _) | (refine bal ?_ (Nat.le_refl _) _))) hzo hro (by first | exact Below.refl _ _ | exact bdw (Below.refl _ _))).mono ?_); rintro e wm ⟨zm, Am, cm, rfl, hzm, hrm, hbm⟩; have jm : Below wc.heap.size wc wm := bst (by repeat (first | exact Below.refl _ _ | exact js | exact jo | exact jm | apply bdw | (refine bdn ?_ _) | (refine bal ?_ (Nat.le_refl _) _))) hbm (Nat.le_refl _); obtain ⟨x0m, y0m, u0m, v0m⟩ := (B6.out.below jm B6.out.lt).two; obtain ⟨x1m, y1m, _, _⟩ := (B1.out.below jm B1.out.lt).two; obtain ⟨x2m, y2m, u2m, v2m⟩ := (B2c.out.below jm B2c.out.lt).two))
    all_goals
      go_wp2_with fail
      have b6m := B6.out.below jm B6.out.lt
      have b2m := (b2c.below jm b2c.lt)
      have b2n := (b2m.far (p := ⟨w1.heap.size, 0, none⟩) (by show _ ≠ w1.heap.size; omega) (.bool (isNeg (z / y + y.sign)))).far (p := ⟨w1.heap.size, 1, none⟩) (by show _ ≠ w1.heap.size; omega) (.slice Am zm.length cm)
      have hlm := jm.size
      have hlc := jc.size
      have hlo : w.heap.size ≤ wo.heap.size := (bst kc jo (Nat.le_refl _)).size
      exact ze_ret (bsc (bsc (bst kc jm (Nat.le_refl _)) (by omega) _) (by omega) _) b2n (by omega) hzm (res_var2 (hrm.mono hlo) b6m _ _) rfl rfl rfl rfl rfl

set_option maxHeartbeats 3200000 in
theorem near_eqo (h : Zh w g A c xs z K) (h2 : Zh w g2 A2 c2 ys y J) (hy : y ≠ 0) (hK : K ≤ 67108864) (hJ : J ≤ 67108863) (hc : cmpN (2 * (z % y).natAbs) y.natAbs = 0) (hbit : (z / y).natAbs % 2 = 1) :
    Calls Tryz.prog 31 #[.agg #[.bool g, .slice A xs.length c], .agg #[.bool g2, .slice A2 ys.length c2]] w fun e w' => ZE w w' (z / y + y.sign) 0 e := by
  have D1 : Hid (∀ W (_ : Below w.heap.size w W), Calls Tryz.prog 29 #[.agg #[.bool g, .slice A xs.length c], .agg #[.bool g2, .slice A2 ys.length c2]] W fun e w' => ZQ W w' (z / y) (z % y) 0 e) := fun W hW => by
    have h9 := (h.next hW).euclid (h2.next hW) hK (by omega)
    rwa [show euQ z y = z / y from rfl, show euR z y = z % y from if_neg hy, show euE y = 0 from if_neg hy] at h9
  obtain ⟨b0, b1, b2⟩ := blk_three w (.bool g) (.slice A xs.length c) (.bool g2) (.slice A2 ys.length c2) (.bool false) (.slice none 0 0)
  have k0 := bel_three w (.cells #[.bool g, .slice A xs.length c] 28) (.cells #[.bool g2, .slice A2 ys.length c2] 28) (.cells #[.bool false, .slice none 0 0] 28)
  have hQl : (z / y).natAbs < 4294967296 ^ K := Nat.lt_of_le_of_lt (Int.natAbs_ediv_le_natAbs z y) h.lt
  have hRl : (z % y).natAbs < 4294967296 ^ J := by
    have := emod_lt_abs' z hy
    have := Int.emod_nonneg z hy
    have := h2.lt
    omega
  have H2 := Lib.hid h2
  clear h h2
  go_enter Tryz.func31, Tryz.ntmps31
  go_wp2_with fail
  refine (D1.out _ k0).mono ?_
  rintro e w1 ⟨qs, rs, A1, c1, A3, c3, rfl, hq, hr, rq, rr, hb1⟩
  have hsz := k0.size
  have k1 := bst k0 hb1 (Nat.le_refl _)
  replace b1 := b1.below hb1 b1.lt
  replace b2 := b2.below hb1 b2.lt
  have s2 : w.heap.size + 1 + 1 < w1.heap.size := b2.lt
  go_upto_region 4 with (fail)
  obtain ⟨w2, hw2⟩ : ∃ w2, w2 = (w1.alloc (.cells #[.bool (isNeg (z / y)), .slice A1 qs.length c1] 28)).alloc (.cells #[.bool (isNeg (z % y)), .slice A3 rs.length c3] 28) := ⟨_, rfl⟩
  rw [← hw2]
  have j2 : Below w1.heap.size w1 w2 := by rw [hw2]; exact bal (bal (Below.refl _ _) (Nat.le_refl _) _) (Nat.le_refl _) _
  obtain ⟨b6, b7⟩ : Blk w2 w1.heap.size 28 [.bool (isNeg (z / y)), .slice A1 qs.length c1] ∧ Blk w2 (w1.heap.size + 1) 28 [.bool (isNeg (z % y)), .slice A3 rs.length c3] := by rw [hw2]; exact blk_pair2 w1 _ _ _ _
  have k2 := bst k1 j2 (Nat.le_refl _)
  replace b1 := b1.below j2 b1.lt
  replace b2 := b2.below j2 b2.lt
  replace rq := (rq.below j2 (Nat.le_refl _)).mono hsz
  replace rr := (rr.below j2 (Nat.le_refl _)).mono hsz
  have hQ : Zn w2 A1 c1 qs (z / y) K := Zn.shrink hq rq hQl
  have hR : Zn w2 A3 c3 rs (z % y) J := Zn.shrink hr rr hRl
  have h2 := H2.out.next k2
  have AD : Hid (∀ W (_ : Below w2.heap.size w2 W), Calls Tryz.prog 61 #[.slice A3 rs.length c3, .slice A3 rs.length c3] W fun e w' => NOut W w' (2 * (z % y).natAbs) e) := fun W hW => by
    have := Hv.addN (hR.next hW).hv (hR.next hW).hv (by omega) (by omega)
    rwa [← Nat.two_mul] at this
  have CM : Hid (∀ (za : List Nat) (Aa : Option Addr) (ca : Nat) (B9 : Nat) (wa W : World), Below w2.heap.size w2 W → Num 4294967296 za (2 * (z % y).natAbs) → Res wa B9 61 Aa ca (u32s za) → Below wa.heap.size wa W → Calls Tryz.prog 60 #[.slice Aa za.length ca, .slice A2 ys.length c2] W fun e w' => e = .returned (.int .i64 (0)) ∧ Dr W w') := fun za Aa ca B9 wa W hW hza hra haW => by
    have hs : 2 * (z % y).natAbs < 4294967296 ^ (J + 1) := by rw [Nat.pow_succ]; omega
    have h9 := (Hv.of (K := J + 1) hza hra hs).next haW
    have hl1 := h9.len
    have hl2 := h2.hv.len
    have h8 := cmp_any Aa A2 ca c2 za ys W W.heap.size h9.rd (h2.next hW).hv.rd h9.dig h2.hv.dig h9.cap h2.hv.cap (by omega) (by omega)
    rwa [h9.val_, h2.hv.val_, hc] at h8
  have HQ := Lib.hid hQ
  have B1 := Lib.hid b1
  have B6 := Lib.hid b6
  have B7 := Lib.hid b7
  have B2 := Lib.hid b2
  have Hnq := Lib.hid hq
  have Hrq := Lib.hid rq
  have Hc := Lib.hid hc
  have Hy := Lib.hid hy
  obtain ⟨p0, p1, _, _⟩ := b1.two
  obtain ⟨p4, p5, _, _⟩ := b7.two
  clear hb1 D1 hq hr rq rr b0 b1 b2 b6 b7 hQ hR h2 hc hw2 k0 hy hsz
  go_cut [9] (fun v W => v = .int .i64 (0) ∧ Below w2.heap.size w2 W)
  case first =>
    go_region_held3 (fun W => W.cell? ⟨w1.heap.size + 1, 1, none⟩ = some (.slice A3 rs.length c3) ∧ W.cell? ⟨w.heap.size + 1, 1, none⟩ = some (.slice A2 ys.length c2)) (go_keep) (first
      | (go_at_call 61; (with_reducible refine (AD.out _ (by repeat (first | exact Below.refl _ _ | exact ja | apply bdw | (refine bdn ?_ _) | (refine bal ?_ (Nat.le_refl _) _)))).mono ?_); rintro e wa ⟨za, Aa, ca, rfl, hza, hra, hba⟩; have ja : Below w2.heap.size w2 wa := bst (by repeat (first | exact Below.refl _ _ | exact ja | apply bdw | (refine bdn ?_ _) | (refine bal ?_ (Nat.le_refl _) _))) hba (Nat.le_refl _); obtain ⟨x0a, y0a, _, _⟩ := (B7.out.below ja B7.out.lt).two; obtain ⟨x1a, y1a, _, _⟩ := (B1.out.below ja B1.out.lt).two)
      | (go_at_call 60; (with_reducible refine (CM.out za Aa ca _ wa _ (by first | exact ja | exact bdw ja) hza hra (by first | exact Below.refl _ _ | exact bdw (Below.refl _ _))).mono ?_); rintro e wd ⟨rfl, hd⟩; obtain ⟨nd, rfl⟩ := hd))
    all_goals
      go_wp2_with fail
      go_meet
      exact ⟨rfl, by first | exact bdn ja _ | exact bdw (bdn ja _) | exact bdn (bdw ja) _⟩
  case rest =>
    obtain ⟨rfl, jc⟩ := hcut
    clear p0 p1 p4 p5 AD CM
    have kc := bst k2 jc (Nat.le_refl _)
    have b6 := B6.out.below jc B6.out.lt
    have b2c := B2.out.below jc B2.out.lt
    have b1c := B1.out.below jc B1.out.lt
    have BT : Hid (∀ W (_ : Below wc.heap.size wc W), Calls Tryz.prog 62 #[.slice A1 qs.length c1, .int .i64 0] W fun e w' => e = .returned (.int .u64 1) ∧ Dr W w') := fun W hW => by
      have := bit0_any (((HQ.out.next (bst jc hW (Nat.le_refl _))).hv)) hK
      rwa [hbit] at this
    have B6' := Lib.hid b6
    clear B6 B7
    have B6 := B6'
    have B1' := Lib.hid b1c
    clear B1
    have B1 := B1'
    obtain ⟨p0, p1, p2, p3⟩ := b6.two
    obtain ⟨q0, q1, q2, q3⟩ := b2c.two

    have SG : Hid (∀ W (_ : Below wc.heap.size wc W), Calls Tryz.prog 28 #[.agg #[.bool g2, .slice A2 ys.length c2]] W fun e w' => e = .returned (.int .i64 y.sign) ∧ Below W.heap.size W w') := fun W hW => (H2.out.next (bst kc hW (Nat.le_refl _))).sign (by omega)
    have OF : Hid (∀ W, Calls Tryz.prog 51 #[.int .i64 y.sign] W fun e w' => ZOut W w' y.sign e) := fun W => zof_any y.sign (sign_range y).1 (sign_range y).2 W
    have ADZ : Hid (∀ (zo : List Nat) (Ao : Option Addr) (co : Nat) (B9 : Nat) (wo W : World), Below wc.heap.size wc W → Num 4294967296 zo y.sign.natAbs → Res wo B9 61 Ao co (u32s zo) → Below wo.heap.size wo W → Calls Tryz.prog 22 #[.agg #[.bool (isNeg (z / y)), .slice A1 qs.length c1], .agg #[.bool (isNeg y.sign), .slice Ao zo.length co]] W fun e w' => ZOut W w' (z / y + y.sign) e) := fun zo Ao co B9 wo W hW hzo hro hoW =>
      Zh.add (HQ.out.next (bst jc hW (Nat.le_refl _))).zh ((Zn.shrink (K := 1) hzo hro (by rcases sign_cases y with ⟨a, b⟩ | ⟨a, b⟩ | ⟨a, b⟩ <;> rw [b] <;> decide)).next hoW).zh hK (by omega)
    have B2c := Lib.hid b2c
    obtain ⟨r0, r1, r2, r3⟩ := b1c.two
    have m1 : w.heap.size + 1 + 1 ≠ w1.heap.size := by omega
    have m2 : w1.heap.size ≠ w.heap.size + 1 + 1 := by omega
    have n1 : w1.heap.size ≠ w.heap.size + 1 := by omega
    have n2 : w.heap.size + 1 ≠ w1.heap.size := by omega

    go_upto_region 6 with (first | (go_at_call 62; (with_reducible refine (BT.out _ (Below.refl _ _)).mono ?_); rintro e wd ⟨rfl, hd⟩; obtain ⟨nd, rfl⟩ := hd))

    go_region_with (first
      | (go_at_call 28; (with_reducible refine (SG.out _ (by repeat (first | exact Below.refl _ _ | exact js | exact jo | exact jm | apply bdw | (refine bdn ?_ _) | (refine bal ?_ (Nat.le_refl _) _)))).mono ?_); rintro e ws ⟨rfl, hbs⟩; have js : Below wc.heap.size wc ws := bst (by repeat (first | exact Below.refl _ _ | exact js | exact jo | exact jm | apply bdw | (refine bdn ?_ _) | (refine bal ?_ (Nat.le_refl _) _))) hbs (Nat.le_refl _); obtain ⟨x0s, y0s, u0s, v0s⟩ := (B6.out.below js B6.out.lt).two; obtain ⟨x1s, y1s, _, _⟩ := (B1.out.below js B1.out.lt).two; obtain ⟨x2s, y2s, u2s, v2s⟩ := (B2c.out.below js B2c.out.lt).two)
      | (go_at_call 51; (with_reducible refine (OF.out _).mono ?_); rintro e wo ⟨zo, Ao, co, rfl, hzo, hro, hbo⟩; have jo : Below wc.heap.size wc wo := bst (by repeat (first | exact Below.refl _ _ | exact js | exact jo | exact jm | apply bdw | (refine bdn ?_ _) | (refine bal ?_ (Nat.le_refl _) _))) hbo (Nat.le_refl _); obtain ⟨x0o, y0o, u0o, v0o⟩ := (B6.out.below jo B6.out.lt).two; obtain ⟨x1o, y1o, _, _⟩ := (B1.out.below jo B1.out.lt).two; obtain ⟨x2o, y2o, u2o, v2o⟩ := (B2c.out.below jo B2c.out.lt).two)
      | (go_at_call 22; (with_reducible refine (ADZ.out zo Ao co _ wo _ (by repeat (first | exact Below.refl _ _ | exact js | exact jo | exact jm | apply bdw | (refine bdn ?_ _) | (refine bal ?_ (Nat.le_refl _) _))) hzo hro (by first | exact Below.refl _ _ | exact bdw (Below.refl _ _))).mono ?_); rintro e wm ⟨zm, Am, cm, rfl, hzm, hrm, hbm⟩; have jm : Below wc.heap.size wc wm := bst (by repeat (first | exact Below.refl _ _ | exact js | exact jo | exact jm | apply bdw | (refine bdn ?_ _) | (refine bal ?_ (Nat.le_refl _) _))) hbm (Nat.le_refl _); obtain ⟨x0m, y0m, u0m, v0m⟩ := (B6.out.below jm B6.out.lt).two; obtain ⟨x1m, y1m, _, _⟩ := (B1.out.below jm B1.out.lt).two; obtain ⟨x2m, y2m, u2m, v2m⟩ := (B2c.out.below jm B2c.out.lt).two))
    all_goals
      go_wp2_with fail
      have b6m := B6.out.below jm B6.out.lt
      have b2m := (b2c.below jm b2c.lt)
      have b2n := (b2m.far (p := ⟨w1.heap.size, 0, none⟩) (by show _ ≠ w1.heap.size; omega) (.bool (isNeg (z / y + y.sign)))).far (p := ⟨w1.heap.size, 1, none⟩) (by show _ ≠ w1.heap.size; omega) (.slice Am zm.length cm)
      have hlm := jm.size
      have hlc := jc.size
      have hlo : w.heap.size ≤ wo.heap.size := (bst kc jo (Nat.le_refl _)).size
      exact ze_ret (bsc (bsc (bst kc jm (Nat.le_refl _)) (by omega) _) (by omega) _) b2n (by omega) hzm (res_var2 (hrm.mono hlo) b6m _ _) rfl rfl rfl rfl rfl

set_option maxHeartbeats 3200000 in
theorem near_eqe (h : Zh w g A c xs z K) (h2 : Zh w g2 A2 c2 ys y J) (hy : y ≠ 0) (hK : K ≤ 67108864) (hJ : J ≤ 67108863) (hc : cmpN (2 * (z % y).natAbs) y.natAbs = 0) (hbit : (z / y).natAbs % 2 = 0) :
    Calls Tryz.prog 31 #[.agg #[.bool g, .slice A xs.length c], .agg #[.bool g2, .slice A2 ys.length c2]] w fun e w' => ZE w w' (z / y) 0 e := by
  have D1 : Hid (∀ W (_ : Below w.heap.size w W), Calls Tryz.prog 29 #[.agg #[.bool g, .slice A xs.length c], .agg #[.bool g2, .slice A2 ys.length c2]] W fun e w' => ZQ W w' (z / y) (z % y) 0 e) := fun W hW => by
    have h9 := (h.next hW).euclid (h2.next hW) hK (by omega)
    rwa [show euQ z y = z / y from rfl, show euR z y = z % y from if_neg hy, show euE y = 0 from if_neg hy] at h9
  obtain ⟨b0, b1, b2⟩ := blk_three w (.bool g) (.slice A xs.length c) (.bool g2) (.slice A2 ys.length c2) (.bool false) (.slice none 0 0)
  have k0 := bel_three w (.cells #[.bool g, .slice A xs.length c] 28) (.cells #[.bool g2, .slice A2 ys.length c2] 28) (.cells #[.bool false, .slice none 0 0] 28)
  have hQl : (z / y).natAbs < 4294967296 ^ K := Nat.lt_of_le_of_lt (Int.natAbs_ediv_le_natAbs z y) h.lt
  have hRl : (z % y).natAbs < 4294967296 ^ J := by
    have := emod_lt_abs' z hy
    have := Int.emod_nonneg z hy
    have := h2.lt
    omega
  have H2 := Lib.hid h2
  clear h h2
  go_enter Tryz.func31, Tryz.ntmps31
  go_wp2_with fail
  refine (D1.out _ k0).mono ?_
  rintro e w1 ⟨qs, rs, A1, c1, A3, c3, rfl, hq, hr, rq, rr, hb1⟩
  have hsz := k0.size
  have k1 := bst k0 hb1 (Nat.le_refl _)
  replace b1 := b1.below hb1 b1.lt
  replace b2 := b2.below hb1 b2.lt
  have s2 : w.heap.size + 1 + 1 < w1.heap.size := b2.lt
  go_upto_region 4 with (fail)
  obtain ⟨w2, hw2⟩ : ∃ w2, w2 = (w1.alloc (.cells #[.bool (isNeg (z / y)), .slice A1 qs.length c1] 28)).alloc (.cells #[.bool (isNeg (z % y)), .slice A3 rs.length c3] 28) := ⟨_, rfl⟩
  rw [← hw2]
  have j2 : Below w1.heap.size w1 w2 := by rw [hw2]; exact bal (bal (Below.refl _ _) (Nat.le_refl _) _) (Nat.le_refl _) _
  obtain ⟨b6, b7⟩ : Blk w2 w1.heap.size 28 [.bool (isNeg (z / y)), .slice A1 qs.length c1] ∧ Blk w2 (w1.heap.size + 1) 28 [.bool (isNeg (z % y)), .slice A3 rs.length c3] := by rw [hw2]; exact blk_pair2 w1 _ _ _ _
  have k2 := bst k1 j2 (Nat.le_refl _)
  replace b1 := b1.below j2 b1.lt
  replace b2 := b2.below j2 b2.lt
  replace rq := (rq.below j2 (Nat.le_refl _)).mono hsz
  replace rr := (rr.below j2 (Nat.le_refl _)).mono hsz
  have hQ : Zn w2 A1 c1 qs (z / y) K := Zn.shrink hq rq hQl
  have hR : Zn w2 A3 c3 rs (z % y) J := Zn.shrink hr rr hRl
  have h2 := H2.out.next k2
  have AD : Hid (∀ W (_ : Below w2.heap.size w2 W), Calls Tryz.prog 61 #[.slice A3 rs.length c3, .slice A3 rs.length c3] W fun e w' => NOut W w' (2 * (z % y).natAbs) e) := fun W hW => by
    have := Hv.addN (hR.next hW).hv (hR.next hW).hv (by omega) (by omega)
    rwa [← Nat.two_mul] at this
  have CM : Hid (∀ (za : List Nat) (Aa : Option Addr) (ca : Nat) (B9 : Nat) (wa W : World), Below w2.heap.size w2 W → Num 4294967296 za (2 * (z % y).natAbs) → Res wa B9 61 Aa ca (u32s za) → Below wa.heap.size wa W → Calls Tryz.prog 60 #[.slice Aa za.length ca, .slice A2 ys.length c2] W fun e w' => e = .returned (.int .i64 (0)) ∧ Dr W w') := fun za Aa ca B9 wa W hW hza hra haW => by
    have hs : 2 * (z % y).natAbs < 4294967296 ^ (J + 1) := by rw [Nat.pow_succ]; omega
    have h9 := (Hv.of (K := J + 1) hza hra hs).next haW
    have hl1 := h9.len
    have hl2 := h2.hv.len
    have h8 := cmp_any Aa A2 ca c2 za ys W W.heap.size h9.rd (h2.next hW).hv.rd h9.dig h2.hv.dig h9.cap h2.hv.cap (by omega) (by omega)
    rwa [h9.val_, h2.hv.val_, hc] at h8
  have HQ := Lib.hid hQ
  have B1 := Lib.hid b1
  have B6 := Lib.hid b6
  have B7 := Lib.hid b7
  have B2 := Lib.hid b2
  have Hnq := Lib.hid hq
  have Hrq := Lib.hid rq
  have Hc := Lib.hid hc
  have Hy := Lib.hid hy
  obtain ⟨p0, p1, _, _⟩ := b1.two
  obtain ⟨p4, p5, _, _⟩ := b7.two
  clear hb1 D1 hq hr rq rr b0 b1 b2 b6 b7 hQ hR h2 hc hw2 k0 hy hsz
  go_cut [9] (fun v W => v = .int .i64 (0) ∧ Below w2.heap.size w2 W)
  case first =>
    go_region_held3 (fun W => W.cell? ⟨w1.heap.size + 1, 1, none⟩ = some (.slice A3 rs.length c3) ∧ W.cell? ⟨w.heap.size + 1, 1, none⟩ = some (.slice A2 ys.length c2)) (go_keep) (first
      | (go_at_call 61; (with_reducible refine (AD.out _ (by repeat (first | exact Below.refl _ _ | exact ja | apply bdw | (refine bdn ?_ _) | (refine bal ?_ (Nat.le_refl _) _)))).mono ?_); rintro e wa ⟨za, Aa, ca, rfl, hza, hra, hba⟩; have ja : Below w2.heap.size w2 wa := bst (by repeat (first | exact Below.refl _ _ | exact ja | apply bdw | (refine bdn ?_ _) | (refine bal ?_ (Nat.le_refl _) _))) hba (Nat.le_refl _); obtain ⟨x0a, y0a, _, _⟩ := (B7.out.below ja B7.out.lt).two; obtain ⟨x1a, y1a, _, _⟩ := (B1.out.below ja B1.out.lt).two)
      | (go_at_call 60; (with_reducible refine (CM.out za Aa ca _ wa _ (by first | exact ja | exact bdw ja) hza hra (by first | exact Below.refl _ _ | exact bdw (Below.refl _ _))).mono ?_); rintro e wd ⟨rfl, hd⟩; obtain ⟨nd, rfl⟩ := hd))
    all_goals
      go_wp2_with fail
      go_meet
      exact ⟨rfl, by first | exact bdn ja _ | exact bdw (bdn ja _) | exact bdn (bdw ja) _⟩
  case rest =>
    obtain ⟨rfl, jc⟩ := hcut
    clear p0 p1 p4 p5 AD CM
    have kc := bst k2 jc (Nat.le_refl _)
    have b6 := B6.out.below jc B6.out.lt
    have b2c := B2.out.below jc B2.out.lt
    have b1c := B1.out.below jc B1.out.lt
    have BT : Hid (∀ W (_ : Below wc.heap.size wc W), Calls Tryz.prog 62 #[.slice A1 qs.length c1, .int .i64 0] W fun e w' => e = .returned (.int .u64 0) ∧ Dr W w') := fun W hW => by
      have := bit0_any (((HQ.out.next (bst jc hW (Nat.le_refl _))).hv)) hK
      rwa [hbit] at this
    have B6' := Lib.hid b6
    clear B6 B7
    have B6 := B6'
    have B1' := Lib.hid b1c
    clear B1
    have B1 := B1'
    obtain ⟨p0, p1, p2, p3⟩ := b6.two
    obtain ⟨q0, q1, q2, q3⟩ := b2c.two

    go_wp2_with (first | (go_at_call 62; (with_reducible refine (BT.out _ (Below.refl _ _)).mono ?_); rintro e wd ⟨rfl, hd⟩; obtain ⟨nd, rfl⟩ := hd))
    exact ze_ret (bdn kc _) (b2c.drewN _) (by omega) Hnq.out (Hrq.out.below (bdn jc _) (Nat.le_refl _)) rfl rfl rfl rfl rfl

set_option maxHeartbeats 3200000 in
theorem near_lt (h : Zh w g A c xs z K) (h2 : Zh w g2 A2 c2 ys y J) (hy : y ≠ 0) (hK : K ≤ 67108864) (hJ : J ≤ 67108863) (hc : cmpN (2 * (z % y).natAbs) y.natAbs = -1) :
    Calls Tryz.prog 31 #[.agg #[.bool g, .slice A xs.length c], .agg #[.bool g2, .slice A2 ys.length c2]] w fun e w' => ZE w w' (z / y) 0 e := by
  have D1 : Hid (∀ W (_ : Below w.heap.size w W), Calls Tryz.prog 29 #[.agg #[.bool g, .slice A xs.length c], .agg #[.bool g2, .slice A2 ys.length c2]] W fun e w' => ZQ W w' (z / y) (z % y) 0 e) := fun W hW => by
    have h9 := (h.next hW).euclid (h2.next hW) hK (by omega)
    rwa [show euQ z y = z / y from rfl, show euR z y = z % y from if_neg hy, show euE y = 0 from if_neg hy] at h9
  obtain ⟨b0, b1, b2⟩ := blk_three w (.bool g) (.slice A xs.length c) (.bool g2) (.slice A2 ys.length c2) (.bool false) (.slice none 0 0)
  have k0 := bel_three w (.cells #[.bool g, .slice A xs.length c] 28) (.cells #[.bool g2, .slice A2 ys.length c2] 28) (.cells #[.bool false, .slice none 0 0] 28)
  have hQl : (z / y).natAbs < 4294967296 ^ K := Nat.lt_of_le_of_lt (Int.natAbs_ediv_le_natAbs z y) h.lt
  have hRl : (z % y).natAbs < 4294967296 ^ J := by
    have := emod_lt_abs' z hy
    have := Int.emod_nonneg z hy
    have := h2.lt
    omega
  have H2 := Lib.hid h2
  clear h h2
  go_enter Tryz.func31, Tryz.ntmps31
  go_wp2_with fail
  refine (D1.out _ k0).mono ?_
  rintro e w1 ⟨qs, rs, A1, c1, A3, c3, rfl, hq, hr, rq, rr, hb1⟩
  have hsz := k0.size
  have k1 := bst k0 hb1 (Nat.le_refl _)
  replace b1 := b1.below hb1 b1.lt
  replace b2 := b2.below hb1 b2.lt
  have s2 : w.heap.size + 1 + 1 < w1.heap.size := b2.lt
  go_upto_region 4 with (fail)
  obtain ⟨w2, hw2⟩ : ∃ w2, w2 = (w1.alloc (.cells #[.bool (isNeg (z / y)), .slice A1 qs.length c1] 28)).alloc (.cells #[.bool (isNeg (z % y)), .slice A3 rs.length c3] 28) := ⟨_, rfl⟩
  rw [← hw2]
  have j2 : Below w1.heap.size w1 w2 := by rw [hw2]; exact bal (bal (Below.refl _ _) (Nat.le_refl _) _) (Nat.le_refl _) _
  obtain ⟨b6, b7⟩ : Blk w2 w1.heap.size 28 [.bool (isNeg (z / y)), .slice A1 qs.length c1] ∧ Blk w2 (w1.heap.size + 1) 28 [.bool (isNeg (z % y)), .slice A3 rs.length c3] := by rw [hw2]; exact blk_pair2 w1 _ _ _ _
  have k2 := bst k1 j2 (Nat.le_refl _)
  replace b1 := b1.below j2 b1.lt
  replace b2 := b2.below j2 b2.lt
  replace rq := (rq.below j2 (Nat.le_refl _)).mono hsz
  replace rr := (rr.below j2 (Nat.le_refl _)).mono hsz
  have hQ : Zn w2 A1 c1 qs (z / y) K := Zn.shrink hq rq hQl
  have hR : Zn w2 A3 c3 rs (z % y) J := Zn.shrink hr rr hRl
  have h2 := H2.out.next k2
  have AD : Hid (∀ W (_ : Below w2.heap.size w2 W), Calls Tryz.prog 61 #[.slice A3 rs.length c3, .slice A3 rs.length c3] W fun e w' => NOut W w' (2 * (z % y).natAbs) e) := fun W hW => by
    have := Hv.addN (hR.next hW).hv (hR.next hW).hv (by omega) (by omega)
    rwa [← Nat.two_mul] at this
  have CM : Hid (∀ (za : List Nat) (Aa : Option Addr) (ca : Nat) (B9 : Nat) (wa W : World), Below w2.heap.size w2 W → Num 4294967296 za (2 * (z % y).natAbs) → Res wa B9 61 Aa ca (u32s za) → Below wa.heap.size wa W → Calls Tryz.prog 60 #[.slice Aa za.length ca, .slice A2 ys.length c2] W fun e w' => e = .returned (.int .i64 (-1)) ∧ Dr W w') := fun za Aa ca B9 wa W hW hza hra haW => by
    have hs : 2 * (z % y).natAbs < 4294967296 ^ (J + 1) := by rw [Nat.pow_succ]; omega
    have h9 := (Hv.of (K := J + 1) hza hra hs).next haW
    have hl1 := h9.len
    have hl2 := h2.hv.len
    have h8 := cmp_any Aa A2 ca c2 za ys W W.heap.size h9.rd (h2.next hW).hv.rd h9.dig h2.hv.dig h9.cap h2.hv.cap (by omega) (by omega)
    rwa [h9.val_, h2.hv.val_, hc] at h8
  have HQ := Lib.hid hQ
  have B1 := Lib.hid b1
  have B6 := Lib.hid b6
  have B7 := Lib.hid b7
  have B2 := Lib.hid b2
  have Hnq := Lib.hid hq
  have Hrq := Lib.hid rq
  have Hc := Lib.hid hc
  have Hy := Lib.hid hy
  obtain ⟨p0, p1, _, _⟩ := b1.two
  obtain ⟨p4, p5, _, _⟩ := b7.two
  clear hb1 D1 hq hr rq rr b0 b1 b2 b6 b7 hQ hR h2 hc hw2 k0 hy hsz
  go_cut [9] (fun v W => v = .int .i64 (-1) ∧ Below w2.heap.size w2 W)
  case first =>
    go_region_held3 (fun W => W.cell? ⟨w1.heap.size + 1, 1, none⟩ = some (.slice A3 rs.length c3) ∧ W.cell? ⟨w.heap.size + 1, 1, none⟩ = some (.slice A2 ys.length c2)) (go_keep) (first
      | (go_at_call 61; (with_reducible refine (AD.out _ (by repeat (first | exact Below.refl _ _ | exact ja | apply bdw | (refine bdn ?_ _) | (refine bal ?_ (Nat.le_refl _) _)))).mono ?_); rintro e wa ⟨za, Aa, ca, rfl, hza, hra, hba⟩; have ja : Below w2.heap.size w2 wa := bst (by repeat (first | exact Below.refl _ _ | exact ja | apply bdw | (refine bdn ?_ _) | (refine bal ?_ (Nat.le_refl _) _))) hba (Nat.le_refl _); obtain ⟨x0a, y0a, _, _⟩ := (B7.out.below ja B7.out.lt).two; obtain ⟨x1a, y1a, _, _⟩ := (B1.out.below ja B1.out.lt).two)
      | (go_at_call 60; (with_reducible refine (CM.out za Aa ca _ wa _ (by first | exact ja | exact bdw ja) hza hra (by first | exact Below.refl _ _ | exact bdw (Below.refl _ _))).mono ?_); rintro e wd ⟨rfl, hd⟩; obtain ⟨nd, rfl⟩ := hd))
    all_goals
      go_wp2_with fail
      go_meet
      exact ⟨rfl, by first | exact bdn ja _ | exact bdw (bdn ja _) | exact bdn (bdw ja) _⟩
  case rest =>
    obtain ⟨rfl, jc⟩ := hcut
    clear p0 p1 p4 p5 AD CM
    have kc := bst k2 jc (Nat.le_refl _)
    have b6 := B6.out.below jc B6.out.lt
    have b2c := B2.out.below jc B2.out.lt
    have b1c := B1.out.below jc B1.out.lt
    have B6' := Lib.hid b6
    clear B6 B7
    have B6 := B6'
    have B1' := Lib.hid b1c
    clear B1
    have B1 := B1'
    obtain ⟨p0, p1, p2, p3⟩ := b6.two
    obtain ⟨q0, q1, q2, q3⟩ := b2c.two

    go_wp2_with fail
    exact ze_ret kc b2c (by omega) Hnq.out (Hrq.out.below jc (Nat.le_refl _)) rfl rfl rfl rfl rfl

end
end Go.Proofs.YtanlejlmckdeiaaGreatDoor
