/- The walk of the law NatSums. Conditions: at most 2^20 limbs each. -/
import Derived.Test.YtogkfpbapjjgfaaRefAdd
import Derived.Test.YtogkfpbapjjgfaaLentRd
namespace Go.Proofs.Ytogkfpbapjjgfaa
open Go.RowKit

/-- What is kept while the law goes on: the two rows that were lent. -/
structure Lent (w : World) (g1 : Nat) (xs : List Nat) (g2 : Nat) (ys : List Nat) (W : World) : Prop where
  bel : Below w.heap.size w W
  l1 : Blk W g1 34 (u32s (lentL xs))
  l2 : Blk W g2 34 (u32s (lentL ys))
theorem Lent.next {w W W' : World} {g1 g2 : Nat} {xs ys : List Nat} (h : Lent w g1 xs g2 ys W) (hb : Below W.heap.size W W') : Lent w g1 xs g2 ys W' :=
  ⟨h.bel.trans (hb.mono h.bel.size), h.l1.below hb h.l1.lt, h.l2.below hb h.l2.lt⟩
theorem Lent.tn {w W W' : World} {g1 g2 g : Nat} {xs ys : List Nat} (h : Lent w g1 xs g2 ys W) (ht : Tn g W W') (n1 : g ≠ g1) (n2 : g ≠ g2) (hg : w.heap.size ≤ g) : Lent w g1 xs g2 ys W' :=
  ⟨h.bel.trans (ht.below hg h.bel.size), h.l1.tn ht n1.symm, h.l2.tn ht n2.symm⟩
theorem Res.rx {w : World} {B g : Nat} {t : TypeId} {A : Option Addr} {c : Nat} {vs : List Value} (h : Res w B t A c vs) (hg : g < B ∨ w.heap.size ≤ g) : Rx w g A vs := fun hn => by
  obtain ⟨b, rest, rfl, hb, hk, _⟩ := h.2.2 hn
  have := hk.lt
  exact ⟨b, 0, rfl, hk.lt, by omega, fun k v hv => by rw [hk.cell, Nat.zero_add, List.getElem?_append_left (List.getElem?_eq_some_iff.1 hv).1]; exact hv⟩
/-- The block that a slice of its own lies in; a new one, if it has none. -/
theorem Res.own {w : World} {B : Nat} {t : TypeId} {A : Option Addr} {c : Nat} {vs : List Value} (h : Res w B t A c vs) (hB : B ≤ w.heap.size) : ∃ g, B ≤ g ∧ (g < w.heap.size ∨ g = w.heap.size) ∧ (vs ≠ [] → A = some ⟨g, 0, none⟩ ∧ ∃ L, Blk w g t L ∧ vs.length ≤ L.length) := by
  by_cases hn : vs = []
  · exact ⟨w.heap.size, hB, Or.inr rfl, fun h => absurd hn h⟩
  · obtain ⟨g, rest, e, hg, hb, _⟩ := h.2.2 hn
    exact ⟨g, hg, Or.inl hb.lt, fun _ => ⟨e, _, hb, by simp⟩⟩
theorem len_cap {w : World} {B : Nat} {t : TypeId} {A : Option Addr} {c : Nat} {xs : List Nat} (h : Res w B t A c (u32s xs)) : xs.length ≤ c ∧ c ≤ 281474976710656 := by
  have h1 := h.1
  have h2 := h.2.1
  rw [u32s_length] at h1
  exact ⟨h1, h2⟩

set_option maxHeartbeats 6400000 in
set_option maxRecDepth 100000 in
theorem natSums_any (A A2 : Option Addr) (c c2 : Nat) (xs ys : List Nat) (w : World) (hr : Rd w w.heap.size A (u32s xs)) (hr2 : Rd w w.heap.size A2 (u32s ys)) (hd : Dig 4294967296 xs) (hd2 : Dig 4294967296 ys) (_ : xs.length ≤ c) (_ : ys.length ≤ c2) (hm : xs.length ≤ 1048576) (hm2 : ys.length ≤ 1048576) :
    Calls Try.prog 4 #[.slice A xs.length c, .slice A2 ys.length c2] w fun e w' => e = .returned (.bool true) ∧ Below w.heap.size w w' := by
  have hl1 := trimL_length_le xs
  have hl2 := trimL_length_le ys
  go_enter Try.func4, Try.ntmps4
  go_wp2_with fail
  refine (lend_any A c xs _ _ hr (Nat.le_refl _) (by omega)).mono ?_
  rintro e w1 ⟨rfl, hb1, hbel1⟩
  go_wp2_with fail
  refine (lend_any A2 c2 ys w1 w.heap.size (hr2.below hbel1) hbel1.size (by omega)).mono ?_
  rintro e w2 ⟨rfl, hb2, hbel2⟩
  have hl : Lent w w.heap.size xs w1.heap.size ys w2 := ⟨hbel1.trans (hbel2.mono hbel1.size), hb1.below hbel2 hb1.lt, hb2⟩
  have hg12 := hb1.lt
  have hg2 := hb2.lt
  have hs1 := hbel1.size
  clear hb1 hb2 hbel1 hbel2
  obtain ⟨m, hmv⟩ : ∃ m, m = val 4294967296 xs := ⟨_, rfl⟩
  obtain ⟨n, hnv⟩ : ∃ n, n = val 4294967296 ys := ⟨_, rfl⟩
  have Hmv := Lib.hid hmv
  have Hnv := Lib.hid hnv
  clear hmv hnv
  go_wp2_with fail
  refine (add_any _ _ _ _ xs ys w2 w2.heap.size ((lent_rd hl.l1 hl.l1.lt)) ((lent_rd hl.l2 hl.l2.lt)) (Nat.le_refl _) hd hd2 (by omega) (by omega) (by omega) (by omega)).mono ?_
  rintro e w3 ⟨ss, A3, c3, rfl, hss, hrs, hb3⟩
  have hl3 := hl.next hb3
  have hw3 := hb3.size
  have hown : ss ≠ [] → ∃ g, A3 = some ⟨g, 0, none⟩ ∧ w2.heap.size ≤ g ∧ g < w3.heap.size := fun hn => by
    obtain ⟨g, rest, e, hg, hb, _⟩ := hrs.2.2 (by intro e; apply hn; have := u32s_length ss; rw [e] at this; exact List.eq_nil_of_length_eq_zero this.symm)
    exact ⟨g, e, hg, hb.lt⟩
  rw [← Hmv.out, ← Hnv.out] at hss
  go_wp2_with fail
  refine (add_any _ _ _ _ xs ys w3 w3.heap.size ((lent_rd hl3.l1 hl3.l1.lt)) ((lent_rd hl3.l2 hl3.l2.lt)) (Nat.le_refl _) hd hd2 (by omega) (by omega) (by omega) (by omega)).mono ?_
  rintro e w4 ⟨sa, A4, c4, rfl, has, hra, hb4⟩
  rw [← Hmv.out, ← Hnv.out] at has
  obtain rfl : sa = ss := Num.unique (by omega) has hss
  have hrs4 := hrs.below hb4 (Nat.le_refl _)
  have hl4 := hl3.next hb4
  have hw4 := hb4.size
  clear hl hl3 hb3 hrs has hb4
  go_wp2_with fail
  refine (sub_any _ _ _ _ xs ys w4 w4.heap.size ((lent_rd hl4.l1 hl4.l1.lt)) ((lent_rd hl4.l2 hl4.l2.lt)) (Nat.le_refl _) hd hd2 (by omega) (by omega) (by omega) (by omega)).mono ?_
  rintro e w5 ⟨ds, A5, c5, rfl, hds, hrd5, hb5⟩
  rw [← Hmv.out, ← Hnv.out] at hds ⊢
  have hl5 := hl4.next hb5
  have hrs5 := hrs4.below hb5 (Nat.le_refl _)
  have hra5 := hra.below hb5 (Nat.le_refl _)
  have hw5 := hb5.size
  obtain ⟨es, hes⟩ : ∃ es : Int, es = (if m < n then 10 else 0) := ⟨_, rfl⟩
  rw [← hes]
  have Hes := Lib.hid hes
  have Hds := Lib.hid hds
  clear hes hds hl4 hrs4 hra hb5
  go_wp2_with fail
  refine (mul_any _ _ _ _ xs ys w5 w5.heap.size ((lent_rd hl5.l1 hl5.l1.lt)) ((lent_rd hl5.l2 hl5.l2.lt)) (Nat.le_refl _) hd hd2 (by omega) (by omega) (by omega) (by omega) (by omega)).mono ?_
  rintro e w6 ⟨ms, A6, c6, rfl, hms, hrm, hb6⟩
  rw [← Hmv.out, ← Hnv.out] at hms
  have hl6 := hl5.next hb6
  have hrs6 := hrs5.below hb6 (Nat.le_refl _)
  have hra6 := hra5.below hb6 (Nat.le_refl _)
  have hrd6 := hrd5.below hb6 (Nat.le_refl _)
  have hw6 := hb6.size
  clear hl5 hrs5 hra5 hrd5 hb6
  have hrA := (hr.below hl6.bel).mono hl6.bel.size
  have hrB := (hr2.below hl6.bel).mono hl6.bel.size
  go_wp2_with fail
  refine (rcmp_any A A2 c c2 xs ys w6 w6.heap.size hrA hrB hd hd2 (by omega) (by omega)).mono ?_
  rintro e w6' ⟨rfl, rfl⟩
  rw [← Hmv.out, ← Hnv.out]
  obtain ⟨cv, hcv⟩ : ∃ cv, cv = cmpN m n := ⟨_, rfl⟩
  rw [← hcv]
  have Hcv := Lib.hid hcv
  clear hcv
  go_wp2_with fail
  refine (cmp_any _ _ _ _ xs ys w6 w6.heap.size ((lent_rd hl6.l1 hl6.l1.lt)) ((lent_rd hl6.l2 hl6.l2.lt)) hd hd2 (by omega) (by omega) (by omega) (by omega)).mono ?_
  rintro e w7 ⟨rfl, hdr7⟩
  rw [← Hmv.out, ← Hnv.out, ← Hcv.out]
  have hb7 := hdr7.below w6.heap.size
  have hl7 := hl6.next hb7
  have hrs7 := hrs6.below hb7 (Nat.le_refl _)
  have hra7 := hra6.below hb7 (Nat.le_refl _)
  have hrd7 := hrd6.below hb7 (Nat.le_refl _)
  have hrm7 := hrm.below hb7 (Nat.le_refl _)
  have hw7 := hb7.size
  clear hl6 hrs6 hra6 hrd6 hrm hb7 hdr7 hrA hrB
  have tcv : (cv != cv) = false := by simp
  have hrA := (hr.below hl7.bel).mono hl7.bel.size
  have hrB := (hr2.below hl7.bel).mono hl7.bel.size
  go_wp2_with fail
  refine (radd_any A A2 c c2 xs ys w7 w7.heap.size hrA hrB (Nat.le_refl _) hd hd2 (by omega) (by omega)).mono ?_
  rintro e w8 ⟨s2, A7, c7, rfl, hs2, hr7, hb8⟩
  rw [← Hmv.out, ← Hnv.out] at hs2
  have e2 := Num.unique (by omega) hs2 hss
  subst e2
  have hl8 := hl7.next hb8
  have hrs8 := hrs7.below hb8 (Nat.le_refl _)
  have hra8 := hra7.below hb8 (Nat.le_refl _)
  have hrd8 := hrd7.below hb8 (Nat.le_refl _)
  have hrm8 := hrm7.below hb8 (Nat.le_refl _)
  have hw8 := hb8.size
  clear hl7 hrs7 hra7 hrd7 hrm7 hb8 hrA hrB hs2
  go_wp2_with fail
  refine (same_yes A3 A7 c3 c7 _ w8 w8.heap.size hrs8.rd hr7.rd (by have := len_cap hrs8; omega)).mono ?_
  rintro e w9 ⟨rfl, hdr9⟩
  have hb9 := hdr9.below w8.heap.size
  have hl9 := hl8.next hb9
  have hrs9 := hrs8.below hb9 (Nat.le_refl _)
  have hra9 := hra8.below hb9 (Nat.le_refl _)
  have hrd9 := hrd8.below hb9 (Nat.le_refl _)
  have hrm9 := hrm8.below hb9 (Nat.le_refl _)
  have hw9 := hb9.size
  clear hl8 hrs8 hra8 hrd8 hrm8 hb9 hdr9 hr7
  have hrA := (hr.below hl9.bel).mono hl9.bel.size
  have hrB := (hr2.below hl9.bel).mono hl9.bel.size
  go_wp2_with fail
  refine (rmul_any A A2 c c2 xs ys w9 w9.heap.size hrA hrB (Nat.le_refl _) hd hd2 (by omega) (by omega) (by omega)).mono ?_
  rintro e w10 ⟨m2, A8, c8, rfl, hm2s, hr8, hb10⟩
  rw [← Hmv.out, ← Hnv.out] at hm2s
  have e3 := Num.unique (by omega) hm2s hms
  subst e3
  have hl10 := hl9.next hb10
  have hrs10 := hrs9.below hb10 (Nat.le_refl _)
  have hra10 := hra9.below hb10 (Nat.le_refl _)
  have hrd10 := hrd9.below hb10 (Nat.le_refl _)
  have hrm10 := hrm9.below hb10 (Nat.le_refl _)
  have hw10 := hb10.size
  clear hl9 hrs9 hra9 hrd9 hrm9 hb10 hrA hrB hm2s hms
  go_wp2_with fail
  refine (same_yes A6 A8 c6 c8 _ w10 w10.heap.size hrm10.rd hr8.rd (by have := len_cap hrm10; omega)).mono ?_
  rintro e w11 ⟨rfl, hdr11⟩
  have hb11 := hdr11.below w10.heap.size
  have hl11 := hl10.next hb11
  have hrs11 := hrs10.below hb11 (Nat.le_refl _)
  have hra11 := hra10.below hb11 (Nat.le_refl _)
  have hrd11 := hrd10.below hb11 (Nat.le_refl _)
  have hw11 := hb11.size
  clear hl10 hrs10 hra10 hrd10 hrm10 hb11 hdr11 hr8
  go_upto_region 9 with (fail)
  go_cut [94] (fun s wd => s = .bool false ∧ Lent w w.heap.size xs w1.heap.size ys wd ∧ Res wd w2.heap.size 34 A3 c3 (u32s s2) ∧ Res wd w3.heap.size 34 A4 c4 (u32s s2) ∧ w11.heap.size ≤ wd.heap.size)
  case first =>
    rcases Nat.lt_or_ge m n with hmn | hmn
    · have e1 := Hcv.out
      have e2 := Hes.out
      have e3 := Hds.out
      rw [show cmpN m n = -1 from by unfold cmpN; rw [if_pos hmn]] at e1
      rw [if_pos hmn] at e2
      rw [show m - n = 0 from by omega] at e3
      obtain rfl := (e3.nil_iff (by omega)).2 rfl
      subst e1 e2
      clear e3 hmn
      go_wp2_with fail
      go_meet
      exact ⟨rfl, hl11, hrs11, hra11, Nat.le_refl _⟩
    · have e2 := Hes.out
      rw [if_neg (by omega)] at e2
      subst e2
      have t1 : decide (cv < 0) = false := by
        rw [Hcv.out]; unfold cmpN
        rw [if_neg (by omega)]
        split <;> decide
      have t2 : decide (0 ≤ cv) = true := by
        rw [Hcv.out]; unfold cmpN
        rw [if_neg (by omega)]
        split <;> decide
      have hrA := (hr.below hl11.bel).mono hl11.bel.size
      have Hmn := Lib.hid hmn
      have hnA := rnorm_any A c xs w11 w11.heap.size hrA (Nat.le_refl _) (by omega)
      have hnB := fun W (hW : Below w.heap.size w W) => rnorm_any A2 c2 ys W W.heap.size ((hr2.below hW).mono hW.size) (Nat.le_refl _) (by omega)
      have hp1 := Num.of_trim hd
      have hq1 := Num.of_trim hd2
      obtain ⟨ps, hps⟩ : ∃ ps, ps = trimL xs := ⟨_, rfl⟩
      obtain ⟨qs, hqs⟩ : ∃ qs, qs = trimL ys := ⟨_, rfl⟩
      rw [← hps] at hnA hp1 hl1
      rw [← hqs] at hnB hq1 hl2
      rw [← Hmv.out] at hp1
      rw [← Hnv.out] at hq1
      have Hp1 := Lib.hid hp1
      have Hq1 := Lib.hid hq1
      have HnA := Lib.hid hnA
      have HnB := Lib.hid hnB
      clear hmn hps hqs hp1 hq1 hnA hnB
      go_wp2_with fail
      refine HnA.out.mono ?_
      rintro e w12 ⟨A9, c9, rfl, hr9, hb12⟩
      have hl12 := hl11.next hb12
      have hrs12 := hrs11.below hb12 (Nat.le_refl _)
      have hra12 := hra11.below hb12 (Nat.le_refl _)
      have hrd12 := hrd11.below hb12 (Nat.le_refl _)
      have hw12 := hb12.size
      go_wp2_with fail
      refine (HnB.out w12 hl12.bel).mono ?_
      rintro e w13 ⟨A10, c10, rfl, hr10, hb13⟩
      have hl13 := hl12.next hb13
      have hrs13 := hrs12.below hb13 (Nat.le_refl _)
      have hra13 := hra12.below hb13 (Nat.le_refl _)
      have hrd13 := hrd12.below hb13 (Nat.le_refl _)
      have hr913 := hr9.below hb13 (Nat.le_refl _)
      have hw13 := hb13.size
      go_wp2_with fail
      refine (rsub_any A9 A10 c9 c10 ps qs w13 w13.heap.size hr913.rd hr10.rd (Nat.le_refl _) Hp1.out.1 Hq1.out.1 (by omega) (by omega) (by rw [Hp1.out.2.2, Hq1.out.2.2]; exact Hmn.out)).mono ?_
      rintro e w14 ⟨dz, A11, c11, rfl, hdz, hr11, hb14⟩
      rw [Hp1.out.2.2, Hq1.out.2.2] at hdz
      have e4 := Num.unique (by omega) hdz Hds.out
      subst e4
      have hl14 := hl13.next hb14
      have hrs14 := hrs13.below hb14 (Nat.le_refl _)
      have hra14 := hra13.below hb14 (Nat.le_refl _)
      have hrd14 := hrd13.below hb14 (Nat.le_refl _)
      have hw14 := hb14.size
      go_wp2_with fail
      refine (same_yes A5 A11 c5 c11 dz w14 w14.heap.size hrd14.rd hr11.rd (by have := len_cap hrd14; omega)).mono ?_
      rintro e w15 ⟨rfl, hdr15⟩
      have hb15 := hdr15.below w14.heap.size
      have hw15 := hb15.size
      go_wp2_with fail
      go_meet
      exact ⟨rfl, hl14.next hb15, hrs14.below hb15 (Nat.le_refl _), hra14.below hb15 (Nat.le_refl _), by omega⟩
  case rest =>
    clear hl11 hrs11 hra11 hrd11 Hes Hds Hcv tcv
    obtain ⟨rfl, hl, hrs, hra, hwd⟩ := hcut
    have hrA := (hr.below hl.bel).mono hl.bel.size
    have hrB := (hr2.below hl.bel).mono hl.bel.size
    go_wp2_with fail
    refine (radd_any A A2 c c2 xs ys wc wc.heap.size hrA hrB (Nat.le_refl _) hd hd2 (by omega) (by omega)).mono ?_
    rintro e wd ⟨s3, A12, c12, rfl, hs3, hr12, hb12⟩
    rw [← Hmv.out, ← Hnv.out] at hs3
    have e4 := Num.unique (by omega) hs3 hss
    subst e4
    have hl2 := hl.next hb12
    have hrs2 := hrs.below hb12 (Nat.le_refl _)
    have hra2 := hra.below hb12 (Nat.le_refl _)
    have hwz := hb12.size
    clear hl hrs hra hrA hrB hb12 hs3 hss
    have Hown := Lib.hid (show ∃ g, w2.heap.size ≤ g ∧ (s3 ≠ [] → A3 = some ⟨g, 0, none⟩ ∧ ∃ L, Blk wd g 34 L ∧ s3.length ≤ L.length) ∧ Rx wd g A4 (u32s s3) ∧ Rx wd g A12 (u32s s3) from by
      by_cases hn : s3 = []
      · subst hn
        exact ⟨w2.heap.size, Nat.le_refl _, fun h => absurd rfl h, fun h => absurd rfl h, fun h => absurd rfl h⟩
      · obtain ⟨g, e, hg, hgl⟩ := hown hn
        obtain ⟨b, rest, e2, _, hb, _⟩ := hrs2.2.2 (by intro e; apply hn; have := u32s_length s3; rw [e] at this; exact List.eq_nil_of_length_eq_zero this.symm)
        have e3 : b = g := by rw [e] at e2; simpa using e2.symm
        subst e3
        exact ⟨b, hg, fun _ => ⟨e, _, hb, by simp [u32s]⟩, hra2.rx (Or.inl hgl), hr12.rx (Or.inl (by omega))⟩)
    have hcapA := len_cap hra2
    clear hown hrs2 hra2 hr12
    obtain ⟨g, hg1, hgo, hx4, hx12⟩ := Hown.out
    have n1 : g ≠ w.heap.size := by omega
    have n2 : g ≠ w1.heap.size := by omega
    have Hgo : Hid (s3 ≠ [] → A3 = some ⟨g, 0, none⟩ ∧ ∃ L, Blk wd g 34 L ∧ s3.length ≤ L.length) := hgo
    clear hgo Hown
    go_wp2_with fail
    go_loopw [16, 100] (fun _ iv wr => ∃ k : Nat, k ≤ s3.length ∧ iv = .int .i64 k ∧ Hid (s3 ≠ [] → ∃ L, Blk wr g 34 L ∧ s3.length ≤ L.length) ∧ Tn g wd wr) (fun _ iv _ => s3.length - (intOf iv).toNat)
    case atStart => exact ⟨0, by omega, rfl, fun h => (Hgo.out h).2, Tn.refl _ _⟩
    case round =>
      obtain ⟨k, hk, rfl, HL, htn⟩ := hrel
      by_cases hlt : k < s3.length
      · have hn : s3 ≠ [] := by intro e; rw [e] at hlt; simp at hlt
        obtain ⟨rfl, _⟩ := Hgo.out hn
        obtain ⟨L, hL, hLl⟩ := HL.out hn
        have hkL : k < L.length := by omega
        obtain ⟨vv, hcv⟩ : ∃ vv, wr.cell? ⟨g, k, none⟩ = some vv := ⟨_, (hL.cell k).trans (List.getElem?_eq_getElem hkL)⟩
        have hfv := hL.frozen k
        clear hn
        go_wp2_with fail
        go_roundw
        case rel => exact ⟨k + 1, by omega, by go_num, fun _ => ⟨_, hL.set_ k (.int .u32 9), by simpa using hLl⟩, htn.setCell k _⟩
        case measure => simp [intOf]; omega
      · have hl3 := hl2.tn htn n1 n2 (by omega)
        have hwr := htn.size
        have hx4r := (hx4.tn htn).rd
        have hx12r := (hx12.tn htn).rd
        go_wp2_with fail
        refine (same_yes A4 A12 c4 c12 s3 wr wr.heap.size hx4r hx12r (by omega)).mono ?_
        rintro e we ⟨rfl, hdre⟩
        have hbe := hdre.below wr.heap.size
        have hl4 := hl3.next hbe
        go_wp2_with fail
        refine (kept_yes _ A (xs.length + 2) c xs we we.heap.size (lent_rd0 hl4.l1 hl4.l1.lt) ((hr.below hl4.bel).mono hl4.bel.size) (by omega)).mono ?_
        rintro e wf ⟨rfl, rfl⟩
        go_wp2_with fail
        refine (kept_yes _ A2 (ys.length + 2) c2 ys we we.heap.size (lent_rd0 hl4.l2 hl4.l2.lt) ((hr2.below hl4.bel).mono hl4.bel.size) (by omega)).mono ?_
        rintro e wf ⟨rfl, rfl⟩
        go_wp2_with fail
        refine (lives_any _).mono ?_
        rintro e wg ⟨rfl, hbg⟩
        go_wp2_with fail
        go_ret
        exact ⟨rfl, hl4.bel.trans (hbg.mono hl4.bel.size)⟩
end Go.Proofs.Ytogkfpbapjjgfaa
