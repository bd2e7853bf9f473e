/- The contract of the reference's Near on integers. Conditions: at most 2^26 - 2 limbs; the divisor is not 0. -/
import Derived.Test.YtanlejlmckdeiaaGreatPkZd32
import Derived.Test.YtanlejlmckdeiaaGreatPkZd30
namespace Go.Proofs.YtanlejlmckdeiaaGreat
open Go.RowKit

/-- Where the reference's Near stands when the divisor is made positive. -/
def NrS (w : World) (z y : Int) (K J : Nat) (W : World) : Prop :=
  ∃ (g : Bool) (A : Option Addr) (c : Nat) (xs : List Nat) (g2 : Bool) (A2 : Option Addr) (c2 : Nat) (ys : List Nat),
    Blk W w.heap.size 25 [.bool g, .slice A xs.length c] ∧ Zh W g A c xs z K ∧ Blk W (w.heap.size + 1) 25 [.bool g2, .slice A2 ys.length c2] ∧ Zh W g2 A2 c2 ys y J ∧
    Blk W (w.heap.size + 2) 25 [.bool false, .slice none 0 0] ∧ Below w.heap.size w W
theorem near_up {z y s : Int} {od : Bool} (hy : 0 < y) (hs : s = (z % y + z % y - y).sign) (ho : od = decide ((z / y) % 2 = 1)) (h : s = 1 ∨ s = 0 ∧ od = true) : nearZ z y = z / y + 1 := by
  rw [near_pos hy, if_pos]
  rcases h with rfl | ⟨rfl, rfl⟩
  · rcases sign_cases (z % y + z % y - y) with ⟨a, b⟩ | ⟨a, b⟩ | ⟨a, b⟩ <;> rw [b] at hs <;> first | omega | skip
  · rcases sign_cases (z % y + z % y - y) with ⟨a, b⟩ | ⟨a, b⟩ | ⟨a, b⟩ <;> rw [b] at hs <;> first | exact Or.inr ⟨by omega, of_decide_eq_true ho.symm⟩ | omega
theorem near_dn {z y s : Int} {od : Bool} (hy : 0 < y) (hs : s = (z % y + z % y - y).sign) (ho : od = decide ((z / y) % 2 = 1)) (h : s = -1 ∨ s = 0 ∧ od = false) : nearZ z y = z / y := by
  rw [near_pos hy, if_neg]
  rcases h with rfl | ⟨rfl, rfl⟩
  · rcases sign_cases (z % y + z % y - y) with ⟨a, b⟩ | ⟨a, b⟩ | ⟨a, b⟩ <;> rw [b] at hs <;> first | omega | skip
  · have h9 := of_decide_eq_false ho.symm
    rcases sign_cases (z % y + z % y - y) with ⟨a, b⟩ | ⟨a, b⟩ | ⟨a, b⟩ <;> rw [b] at hs <;> omega
theorem odd_num {q : Int} {d : Nat} {t : List Nat} (h : Num 4294967296 (d :: t) q.natAbs) : decide (q % 2 = 1) = decide (d % 2 = 1) := by
  have h2 : val 4294967296 (d :: t) = q.natAbs := h.2.2
  simp only [val] at h2
  refine decide_eq_decide.2 ⟨fun h => ?_, fun h => ?_⟩ <;> omega
theorem even_nil {q : Int} (h : Num 4294967296 [] q.natAbs) : decide (q % 2 = 1) = false := by
  have h2 : val 4294967296 [] = q.natAbs := h.2.2
  simp only [val] at h2
  obtain rfl : q = 0 := by omega
  rfl
section
variable {w : World} {g g2 : Bool} {A A2 : Option Addr} {c c2 K J : Nat} {xs ys : List Nat} {z y : Int}

set_option maxHeartbeats 6400000 in
theorem Zh.rnear (h : Zh w g A c xs z K) (h2 : Zh w g2 A2 c2 ys y J) (hy : y ≠ 0) (hK : K ≤ 67108862) (hJ : J ≤ 67108862) :
    Calls Tryz.prog 38 #[.agg #[.bool g, .slice A xs.length c], .agg #[.bool g2, .slice A2 ys.length c2]] w fun e w' => ZOut w w' (nearZ z y) e := by
  obtain ⟨b0, b1, b2⟩ := blk_three w (.bool g) (.slice A xs.length c) (.bool g2) (.slice A2 ys.length c2) (.bool false) (.slice none 0 0)
  have k0 := bel_three w (.cells #[.bool g, .slice A xs.length c] 25) (.cells #[.bool g2, .slice A2 ys.length c2] 25) (.cells #[.bool false, .slice none 0 0] 25)
  obtain ⟨sy, hsy⟩ : ∃ s, s = y.sign := ⟨_, rfl⟩
  have SG : Hid (∀ W (_ : Below w.heap.size w W), Calls Tryz.prog 16 #[.agg #[.bool g2, .slice A2 ys.length c2]] W fun e w' => e = .returned (.int .i64 sy) ∧ Below W.heap.size W w') := fun W hW => by rw [hsy]; exact (h2.next hW).rsign (by omega)
  obtain ⟨z9, hz9⟩ : ∃ v, v = if y < 0 then -z else z := ⟨_, rfl⟩
  obtain ⟨y9, hy9⟩ : ∃ v, v = if y < 0 then -y else y := ⟨_, rfl⟩
  have hyp : Hid (0 < y9) := by show _ < _; rw [hy9]; split <;> omega
  have HN : Hid (nearZ z y = nearZ z9 y9) := by
    show _ = _
    rw [hz9, hy9]
    split
    · rw [near_neg hy]
    · rfl
  have hs3 : sy = -1 ∧ y < 0 ∨ sy = 1 ∧ ¬ y < 0 := by rcases sign_cases y with ⟨a, b⟩ | ⟨a, b⟩ | ⟨a, b⟩ <;> rw [hsy, b] <;> first | exact Or.inl ⟨rfl, a⟩ | exact Or.inr ⟨rfl, by omega⟩ | exact absurd a hy
  have HS3 := Lib.hid hs3
  have H := Lib.hid h
  have H2 := Lib.hid h2
  have HZ9 := Lib.hid hz9
  have HY9 := Lib.hid hy9
  clear h h2 hsy hs3 hz9 hy9 hy
  go_enter Tryz.func38, Tryz.ntmps38
  go_wp2_with fail
  refine (SG.out _ k0).mono ?_
  rintro e w1 ⟨rfl, hb1⟩
  have k1 := bst k0 hb1 (Nat.le_refl _)
  replace b0 := b0.below hb1 b0.lt
  replace b1 := b1.below hb1 b1.lt
  replace b2 := b2.below hb1 b2.lt
  clear SG
  go_upto_if 11 with (fail)
  go_cut [4] (fun v W => v = .pointer (some ⟨w.heap.size + 2, 0, none⟩) ∧ NrS w z9 y9 K J W)
  case first =>
    rcases HS3.out with ⟨rfl, hneg⟩ | ⟨rfl, hneg⟩
    · have e1 : z9 = -z := by rw [HZ9.out, if_pos hneg]
      have e2 : y9 = -y := by rw [HY9.out, if_pos hneg]
      clear HS3 HZ9 HY9 HN hyp hneg
      subst e1 e2
      have hA := H.out.next k1
      have hB := H2.out.next k1
      have NA : Hid (∀ W (_ : Below w1.heap.size w1 W), Calls Tryz.prog 19 #[.agg #[.bool g, .slice A xs.length c]] W fun e w' => ZOut W w' (-z) e) := fun W hW => (hA.next hW).rneg (by omega)
      have NB : Hid (∀ W (_ : Below w1.heap.size w1 W), Calls Tryz.prog 19 #[.agg #[.bool g2, .slice A2 ys.length c2]] W fun e w' => ZOut W w' (-y) e) := fun W hW => (hB.next hW).rneg (by omega)
      have LA : Hid ((-z).natAbs < 4294967296 ^ K) := by show _ < _; rw [Int.natAbs_neg]; exact hA.lt
      have LB : Hid ((-y).natAbs < 4294967296 ^ J) := by show _ < _; rw [Int.natAbs_neg]; exact hB.lt
      have B0 := Lib.hid b0
      have B1 := Lib.hid b1
      have B2 := Lib.hid b2
      have K1 := Lib.hid k1
      obtain ⟨p0, p1, p2, p3⟩ := b0.two
      obtain ⟨q0, q1, q2, q3⟩ := b1.two
      have s0 := k1.size
      clear hA hB b0 b1 b2 k0 k1 hb1 H H2
      have n1 : w.heap.size ≠ w.heap.size + 1 := by omega
      go_upto_region 2 with (fail)
      refine region_held_tail (fun W => W.cell? ⟨w.heap.size, 0, none⟩ = some (.bool g) ∧ W.cell? ⟨w.heap.size, 1, none⟩ = some (.slice A xs.length c) ∧ W.cell? ⟨w.heap.size + 1, 0, none⟩ = some (.bool g2) ∧ W.cell? ⟨w.heap.size + 1, 1, none⟩ = some (.slice A2 ys.length c2)) 4 (by kernel_rfl) (by kernel_rfl) ?hSt1 (fun hHeld => ?_)
      case hSt1 => (try dsimp only); go_keep
      refine HeadW.take (i := 0) (v := ?v0t1) rfl (by kernel_rfl) (by decide) (by kernel_rfl) (by kernel_rfl) (fun _ _ _ h => h) (Or.inl ⟨by rfl, ?hy0t1⟩) (by assumption) ?rest0t1
      case hy0t1 => intro w hSw; (try dsimp only at hSw); (try simp only [List.getElem_toArray, List.getElem_cons_zero]); go_simp; (try with_reducible rfl)
      (try simp only [List.getElem_toArray, List.getElem_cons_zero, Act.put, List.setIfInBounds_toArray, List.set_cons_zero, List.set_cons_succ])
      refine HeadW.take (i := 2) (v := ?v2t1) rfl (by kernel_rfl) (by decide) (by kernel_rfl) (by kernel_rfl) (fun _ _ _ h => h) (Or.inl ⟨by rfl, ?hy2t1⟩) (by assumption) ?rest2t1
      case hy2t1 => intro w hSw; (try dsimp only at hSw); (try simp only [List.getElem_toArray, List.getElem_cons_succ, List.getElem_cons_zero]); go_simp; (try with_reducible rfl)
      (try simp only [List.getElem_toArray, List.getElem_cons_succ, List.getElem_cons_zero, Act.put, List.setIfInBounds_toArray, List.set_cons_zero, List.set_cons_succ])
      refine HeadW.one (i := 1) (by kernel_rfl) (by decide) rfl (fun K hK => ?_)
      go_simp
      (go_at_call 19; (with_reducible refine (NA.out _ (by repeat (first | exact Below.refl _ _ | exact ja | exact jb | apply bdw | (refine bdn ?_ _) | (refine bal ?_ (Nat.le_refl _) _)))).mono ?_); rintro e wa ⟨za, Aa, ca, rfl, hza, hra, hba⟩; have ja : Below w1.heap.size w1 wa := bst (by repeat (first | exact Below.refl _ _ | exact ja | exact jb | apply bdw | (refine bdn ?_ _) | (refine bal ?_ (Nat.le_refl _) _))) hba (Nat.le_refl _); obtain ⟨x0a, y0a, u0a, v0a⟩ := (B0.out.below ja B0.out.lt).two; obtain ⟨x1a, y1a, u1a, v1a⟩ := (B1.out.below ja B1.out.lt).two; obtain ⟨x2a, y2a, u2a, v2a⟩ := (B2.out.below ja B2.out.lt).two)
      (try go_wp2_with fail)
      refine hK.out _ _ ?hS1t1 (fun hHeld2 => ?_)
      case hS1t1 => (try dsimp only); go_keep
      clear hK K hHeld
      have hHeld := hHeld2
      clear hHeld2
      (try simp only [List.getElem_toArray, List.getElem_cons_succ, List.getElem_cons_zero, Act.put, List.setIfInBounds_toArray, List.set_cons_zero, List.set_cons_succ])
      refine HeadW.one (i := 3) (by kernel_rfl) (by decide) rfl (fun K hK => ?_)
      go_simp
      (go_at_call 19; (with_reducible refine (NB.out _ (by repeat (first | exact Below.refl _ _ | exact ja | exact jb | apply bdw | (refine bdn ?_ _) | (refine bal ?_ (Nat.le_refl _) _)))).mono ?_); rintro e wb ⟨zb, Ab, cb, rfl, hzb, hrb, hbb⟩; have jb : Below w1.heap.size w1 wb := bst (by repeat (first | exact Below.refl _ _ | exact ja | exact jb | apply bdw | (refine bdn ?_ _) | (refine bal ?_ (Nat.le_refl _) _))) hbb (Nat.le_refl _); obtain ⟨x0b, y0b, u0b, v0b⟩ := (B0.out.below jb B0.out.lt).two; obtain ⟨x1b, y1b, u1b, v1b⟩ := (B1.out.below jb B1.out.lt).two; obtain ⟨x2b, y2b, u2b, v2b⟩ := (B2.out.below jb B2.out.lt).two)
      (try go_wp2_with fail)
      refine hK.out _ _ ?hS3t1 (fun hHeld2 => ?_)
      case hS3t1 => (try dsimp only); go_keep
      clear hK K hHeld
      have hHeld := hHeld2
      clear hHeld2
      (try simp only [List.getElem_toArray, List.getElem_cons_succ, List.getElem_cons_zero, Act.put, List.setIfInBounds_toArray, List.set_cons_zero, List.set_cons_succ])
      refine HeadW.done (by kernel_rfl) ?_
      simp only [List.drop_succ_cons, List.drop_zero]
      go_wp2_with fail
      go_meet
      have sa9 : w.heap.size ≤ wa.heap.size := Nat.le_trans s0 ja.size
      obtain ⟨⟨A1, c1, zs1, b1, m1, r1, l1⟩, ⟨A2, c2, zs2, b2, m2, r2, l2⟩⟩ := vr_two (B := w.heap.size) (B0.out.below jb B0.out.lt) (B1.out.below jb B1.out.lt) n1 hza ((hra.mono s0).below hbb (Nat.le_refl _)) (num32_len hza (Nat.le_refl _) LA.out) hzb (hrb.mono sa9) (num32_len hzb (Nat.le_refl _) LB.out)
      exact ⟨rfl, _, A1, c1, zs1, _, A2, c2, zs2, b1, (zn_of m1 r1 l1).zh, b2, (zn_of m2 r2 l2).zh, far4 (B2.out.below jb B2.out.lt) (by omega) (by omega), bsc4 (bst K1.out jb (Nat.le_refl _)) (by omega) (by omega)⟩
    · have e1 : z9 = z := by rw [HZ9.out, if_neg (by omega)]
      have e2 : y9 = y := by rw [HY9.out, if_neg (by omega)]
      clear HS3 HZ9 HY9 HN hyp hneg
      subst e1 e2
      go_wp2_with fail
      go_meet
      exact ⟨rfl, g, A, c, xs, g2, A2, c2, ys, b0, H.out.next k1, b1, H2.out.next k1, b2, k1⟩
  case rest =>
    obtain ⟨rfl, g, A, c, xs, g2, A2, c2, ys, b0, hA, b1, hB, b2, k2⟩ := hcut
    obtain ⟨w2, rfl⟩ : ∃ w2 : World, w2 = wc := ⟨_, rfl⟩
    clear HS3 HZ9 HY9 H H2 k0 k1 hb1
    obtain ⟨Q, hQ⟩ : ∃ v, v = z9 / y9 := ⟨_, rfl⟩
    obtain ⟨R, hR⟩ : ∃ v, v = z9 % y9 := ⟨_, rfl⟩
    have hy0 : y9 ≠ 0 := by have := hyp.out; omega
    have EU : Hid (∀ W (_ : Below w2.heap.size w2 W), Calls Tryz.prog 35 #[.agg #[.bool g, .slice A xs.length c], .agg #[.bool g2, .slice A2 ys.length c2]] W fun e w' => ZZ W w' Q R e) := fun W hW => by rw [hQ, hR]; exact (hA.next hW).reuclid (hB.next hW) hy0 (by omega) (by omega)
    have HQl : Hid (Q.natAbs < 4294967296 ^ K) := by show _ < _; rw [hQ]; exact Nat.lt_of_le_of_lt (Int.natAbs_ediv_le_natAbs z9 y9) hA.lt
    have HRl : Hid (R.natAbs < 4294967296 ^ J) := by
      have e1 := emod_lt_abs' z9 hy0
      have e2 := Int.emod_nonneg z9 hy0
      have e3 := hB.lt
      show _ < _; rw [hR]; omega
    have HQ := Lib.hid hQ
    have HR := Lib.hid hR
    have HB := Lib.hid hB
    have K2 := Lib.hid k2
    obtain ⟨p0, p1, _, _⟩ := b0.two
    obtain ⟨q0, q1, _, _⟩ := b1.two
    clear hy0 hQ hR hA hB b0 
    go_wp2_with fail
    refine (EU.out _ (Below.refl _ _)).mono ?_
    rintro e w3 ⟨qs, rs, A8, c8, A9, c9, rfl, hq, hr, rq, rr, hb3⟩
    clear EU p0 p1 q0 q1
    obtain ⟨b5, b6⟩ := blk_pair2 w3 (.bool (isNeg Q)) (.slice A8 qs.length c8) (.bool (isNeg R)) (.slice A9 rs.length c9)
    have j2 := bel_two w3 (.cells #[.bool (isNeg Q), .slice A8 qs.length c8] 25) (.cells #[.bool (isNeg R), .slice A9 rs.length c9] 25)
    go_upto_region 4 with (fail)
    obtain ⟨w4, hw4⟩ : ∃ w4, w4 = (w3.alloc (.cells #[.bool (isNeg Q), .slice A8 qs.length c8] 25)).alloc (.cells #[.bool (isNeg R), .slice A9 rs.length c9] 25) := ⟨_, rfl⟩
    rw [← hw4] at b5 b6 j2 ⊢
    obtain ⟨g5, hg5⟩ : ∃ g, g = w3.heap.size := ⟨_, rfl⟩
    rw [← hg5] at b5 b6 ⊢
    clear hw4
    have s2 := k2.size
    have hj := bst hb3 j2 (Nat.le_refl _)
    have k4 := bst k2 hj (Nat.le_refl _)
    have B1 := Lib.hid (b1.below hj b1.lt)
    have B2 := Lib.hid (b2.below hj b2.lt)
    have RQ := Lib.hid ((rq.mono s2).below j2 (Nat.le_refl _))
    have hRR : Zh w4 (isNeg R) A9 c9 rs R J := (Zn.shrink hr ((rr.mono s2).below j2 (Nat.le_refl _)) HRl.out).zh
    have hQQ : Zh w4 (isNeg Q) A8 c8 qs Q K := (Zn.shrink hq RQ.out HQl.out).zh
    have hB := HB.out.next hj
    obtain ⟨sg, hsg⟩ : ∃ s, s = (R + R - y9).sign := ⟨_, rfl⟩
    have AD : Hid (∀ W (_ : Below w4.heap.size w4 W), Calls Tryz.prog 24 #[.agg #[.bool (isNeg R), .slice A9 rs.length c9], .agg #[.bool (isNeg R), .slice A9 rs.length c9]] W fun e w' => ZOut W w' (R + R) e) := fun W hW => (hRR.next hW).radd (hRR.next hW) (by omega) (by omega)
    have CM : Hid (∀ (za : List Nat) (Aa : Option Addr) (ca B9 : Nat) (wo W : World), Below w4.heap.size w4 W → Num 4294967296 za (R + R).natAbs → Res wo B9 36 Aa ca (u32s za) → Below wo.heap.size wo W → Calls Tryz.prog 9 #[.agg #[.bool (isNeg (R + R)), .slice Aa za.length ca], .agg #[.bool g2, .slice A2 ys.length c2]] W fun e w' => e = .returned (.int .i64 sg) ∧ Below W.heap.size W w') := fun za Aa ca B9 wo W hW hn hr hb => by
      rw [hsg]
      have h9 := zsum_lt (b := 4294967296) (by omega) HRl.out HRl.out
      exact ((Zn.shrink (K := max J J + 1) hn hr h9).next hb).zh.rcmp (hB.next hW) (by omega) (by omega)
    have AQ : Hid (∀ (W9 : World) (zo : List Nat) (Ao : Option Addr) (co B9 : Nat) (wo W : World), Below w4.heap.size w4 W → Num 4294967296 zo (1 : Int).natAbs → Res wo B9 36 Ao co (u32s zo) → Below wo.heap.size wo W → Calls Tryz.prog 24 #[.agg #[.bool (isNeg Q), .slice A8 qs.length c8], .agg #[.bool (isNeg 1), .slice Ao zo.length co]] W fun e w' => ZOut W w' (Q + 1) e) := fun _ zo Ao co B9 wo W hW hn hr hb => (hQQ.next hW).radd ((Zn.shrink (K := 1) hn hr (by decide)).next hb).zh (by omega) (by omega)
    have Hsg := Lib.hid hsg
    have Hq := Lib.hid hq
    have B5 := Lib.hid b5
    have B6 := Lib.hid b6
    have K4 := Lib.hid k4
    obtain ⟨p0, p1, _, _⟩ := b6.two
    obtain ⟨q0, q1, _, _⟩ := B1.out.two
    have o5 : w.heap.size + 2 < g5 := by have := b2.lt; have := hb3.size; omega
    clear hsg hr rr rq hRR hQQ hB b1 b2 b5 b6 hj k4 j2 hq hb3 HB k2 K2 s2 hg5
    go_cut [7] (fun v W => v = .int .i64 sg ∧ Below w4.heap.size w4 W)
    case first =>
      go_region_held3 (fun W => W.cell? ⟨g5 + 1, 0, none⟩ = some (.bool (isNeg R)) ∧ W.cell? ⟨g5 + 1, 1, none⟩ = some (.slice A9 rs.length c9) ∧ W.cell? ⟨w.heap.size + 1, 0, none⟩ = some (.bool g2) ∧ W.cell? ⟨w.heap.size + 1, 1, none⟩ = some (.slice A2 ys.length c2)) (go_keep) (first
        | (go_at_call 24; (with_reducible refine (AD.out _ (by repeat (first | exact Below.refl _ _ | exact ja | exact js | apply bdw | (refine bdn ?_ _) | (refine bal ?_ (Nat.le_refl _) _)))).mono ?_); rintro e wa ⟨za, Aa, ca, rfl, hza, hra, hba⟩; have ja : Below w4.heap.size w4 wa := bst (by repeat (first | exact Below.refl _ _ | exact ja | exact js | apply bdw | (refine bdn ?_ _) | (refine bal ?_ (Nat.le_refl _) _))) hba (Nat.le_refl _); obtain ⟨x0a, y0a, _, _⟩ := (B6.out.below ja B6.out.lt).two; obtain ⟨x1a, y1a, _, _⟩ := (B1.out.below ja B1.out.lt).two)
        | (go_at_call 9; (with_reducible refine (CM.out za Aa ca _ wa _ (by repeat (first | exact Below.refl _ _ | exact ja | exact js | apply bdw | (refine bdn ?_ _) | (refine bal ?_ (Nat.le_refl _) _))) hza hra (by repeat (first | exact Below.refl _ _ | apply bdw | (refine bdn ?_ _)))).mono ?_); rintro e ws ⟨rfl, hbs⟩; have js : Below w4.heap.size w4 ws := bst (by repeat (first | exact Below.refl _ _ | exact ja | exact js | apply bdw | (refine bdn ?_ _) | (refine bal ?_ (Nat.le_refl _) _))) hbs (Nat.le_refl _); obtain ⟨x0s, y0s, _, _⟩ := (B6.out.below js B6.out.lt).two; obtain ⟨x1s, y1s, _, _⟩ := (B1.out.below js B1.out.lt).two))
      all_goals
        go_wp2_with fail
        go_meet
        exact ⟨rfl, js⟩
    case rest =>
      obtain ⟨rfl, j5⟩ := hcut
      obtain ⟨w5, rfl⟩ : ∃ w5 : World, w5 = wc := ⟨_, rfl⟩
      clear AD CM p0 p1 q0 q1
      have K5 := Lib.hid (bst K4.out j5 (Nat.le_refl _))
      have J5 := Lib.hid j5
      have b5 := B5.out.below j5 B5.out.lt
      have B5' := Lib.hid b5
      have B2' := Lib.hid (B2.out.below j5 B2.out.lt)
      have rq := RQ.out.below j5 (Nat.le_refl _)
      have RQ' := Lib.hid rq
      obtain ⟨p0, p1, p2, p3⟩ := b5.two
      obtain ⟨od, hod⟩ : ∃ b, b = decide (Q % 2 = 1) := ⟨_, rfl⟩
      clear b5 j5 B5 B2 RQ
      go_upto_region 5 with (fail)
      go_cut [8] (fun v W => v = .bool od ∧ W = w5)
      case first =>
        have hq := Hq.out
        clear Hq AQ Hsg K4 K5 J5 B5' B2' RQ'
        cases qs with
        | nil =>
          have e9 := even_nil hq
          rw [← hod] at e9
          subst e9
          clear hod hq
          go_wp2_with fail
          go_meet
          exact ⟨rfl, rfl⟩
        | cons d t =>
          have e9 := odd_num hq
          rw [← hod] at e9
          obtain ⟨b, off, rfl, hb, hx⟩ := rq.rd.at32 (k := 0) (by simp)
          simp only [List.getElem_cons_zero, Nat.add_zero] at hx
          clear hod hq rq
          by_cases hd : d % 2 = 1
          · rw [decide_eq_true hd] at e9
            subst e9
            have hd2 : (d : Int) % 2 = 1 := by omega
            go_wp2_with fail
            go_meet
            exact ⟨rfl, rfl⟩
          · rw [decide_eq_false hd] at e9
            subst e9
            have hd2 : (d : Int) % 2 = 0 := by omega
            go_wp2_with fail
            go_meet
            exact ⟨rfl, rfl⟩
      case rest =>
        obtain ⟨rfl, hw⟩ := hcut
        rw [hw]
        clear hw
        have hs9 : sg = (z9 % y9 + z9 % y9 - y9).sign := by rw [Hsg.out, HR.out]
        rw [HQ.out] at hod
        have hs3 : (sg = 1 ∨ sg = 0 ∧ od = true) ∨ (sg = -1 ∨ sg = 0 ∧ od = false) := by
          have := Bool.eq_false_or_eq_true od
          rcases sign_cases (z9 % y9 + z9 % y9 - y9) with ⟨a, b⟩ | ⟨a, b⟩ | ⟨a, b⟩ <;> rw [b] at hs9 <;> simp [hs9] <;> cases od <;> simp
        have s5 := K5.out.size
        rcases hs3 with hu | hd
        · have HU : Hid (nearZ z y = Q + 1) := by show _ = _; rw [HN.out, near_up hyp.out hs9 hod hu, ← HQ.out]
          have AQ5 : Hid (∀ (zo : List Nat) (Ao : Option Addr) (co B9 : Nat) (wo W : World), Below w5.heap.size w5 W → Num 4294967296 zo (1 : Int).natAbs → Res wo B9 36 Ao co (u32s zo) → Below wo.heap.size wo W → Calls Tryz.prog 24 #[.agg #[.bool (isNeg Q), .slice A8 qs.length c8], .agg #[.bool (isNeg 1), .slice Ao zo.length co]] W fun e w' => ZOut W w' (Q + 1) e) := fun zo Ao co B9 wo W hW => AQ.out w5 zo Ao co B9 wo W (bst J5.out hW (Nat.le_refl _))
          clear hs9 hod AQ Hsg HQ HR rq p2 p3
          rcases hu with rfl | ⟨rfl, rfl⟩
          · go_upto_region 7 with (fail)
            refine region_held_tail (fun W => W.cell? ⟨g5, 0, none⟩ = some (.bool (isNeg Q)) ∧ W.cell? ⟨g5, 1, none⟩ = some (.slice A8 qs.length c8)) 3 (by kernel_rfl) (by kernel_rfl) ?hSt2 (fun hHeld => ?_)
            case hSt2 => (try dsimp only); go_keep
            refine HeadW.take (i := 0) (v := ?v0t2) rfl (by kernel_rfl) (by decide) (by kernel_rfl) (by kernel_rfl) (fun _ _ _ h => h) (Or.inl ⟨by rfl, ?hy0t2⟩) (by assumption) ?rest0t2
            case hy0t2 => intro w hSw; (try dsimp only at hSw); (try simp only [List.getElem_toArray, List.getElem_cons_zero]); go_simp; (try with_reducible rfl)
            (try simp only [List.getElem_toArray, List.getElem_cons_zero, Act.put, List.setIfInBounds_toArray, List.set_cons_zero, List.set_cons_succ])
            refine HeadW.one (i := 1) (by kernel_rfl) (by decide) rfl (fun K hK => ?_)
            go_simp
            (go_at_call 42; (with_reducible refine (rzof_any 1 (by decide) (by decide) _).mono ?_); rintro e wo ⟨zo, Ao, co, rfl, hzo, hro, hbo⟩; have jo : Below w5.heap.size w5 wo := bst (by repeat (first | exact Below.refl _ _ | exact jo | exact jb | apply bdw | (refine bdn ?_ _) | (refine bal ?_ (Nat.le_refl _) _))) hbo (Nat.le_refl _); obtain ⟨x0o, y0o, u0o, v0o⟩ := (B5'.out.below jo B5'.out.lt).two; obtain ⟨x1o, y1o, u1o, v1o⟩ := (B2'.out.below jo B2'.out.lt).two)
            (try go_wp2_with fail)
            refine hK.out _ _ ?hS1t2 (fun hHeld2 => ?_)
            case hS1t2 => (try dsimp only); go_keep
            clear hK K hHeld
            have hHeld := hHeld2
            clear hHeld2
            (try simp only [List.getElem_toArray, List.getElem_cons_succ, List.getElem_cons_zero, Act.put, List.setIfInBounds_toArray, List.set_cons_zero, List.set_cons_succ])
            refine HeadW.one (i := 2) (by kernel_rfl) (by decide) rfl (fun K hK => ?_)
            go_simp
            (go_at_call 24; (with_reducible refine (AQ5.out zo Ao co _ wo _ (by repeat (first | exact Below.refl _ _ | exact jo | exact jb | apply bdw | (refine bdn ?_ _) | (refine bal ?_ (Nat.le_refl _) _))) hzo hro (by repeat (first | exact Below.refl _ _ | apply bdw | (refine bdn ?_ _)))).mono ?_); rintro e wb ⟨zb, Ab, cb, rfl, hzb, hrb, hbb⟩; have jb : Below w5.heap.size w5 wb := bst (by repeat (first | exact Below.refl _ _ | exact jo | exact jb | apply bdw | (refine bdn ?_ _) | (refine bal ?_ (Nat.le_refl _) _))) hbb (Nat.le_refl _); obtain ⟨x0b, y0b, u0b, v0b⟩ := (B5'.out.below jb B5'.out.lt).two; obtain ⟨x1b, y1b, u1b, v1b⟩ := (B2'.out.below jb B2'.out.lt).two)
            (try go_wp2_with fail)
            refine hK.out _ _ ?hS2t2 (fun hHeld2 => ?_)
            case hS2t2 => (try dsimp only); go_keep
            clear hK K hHeld
            have hHeld := hHeld2
            clear hHeld2
            (try simp only [List.getElem_toArray, List.getElem_cons_succ, List.getElem_cons_zero, Act.put, List.setIfInBounds_toArray, List.set_cons_zero, List.set_cons_succ])
            refine HeadW.done (by kernel_rfl) ?_
            simp only [List.drop_succ_cons, List.drop_zero]
            go_wp2_with fail
            have so9 : w.heap.size ≤ wo.heap.size := Nat.le_trans s5 jo.size
            rw [HU.out]
            exact zretT (bst K5.out jb (Nat.le_refl _)) (B2'.out.below jb B2'.out.lt) (by omega) hzb (hrb.mono so9) rfl rfl rfl rfl
          · go_upto_region 7 with (fail)
            refine region_held_tail (fun W => W.cell? ⟨g5, 0, none⟩ = some (.bool (isNeg Q)) ∧ W.cell? ⟨g5, 1, none⟩ = some (.slice A8 qs.length c8)) 3 (by kernel_rfl) (by kernel_rfl) ?hSt3 (fun hHeld => ?_)
            case hSt3 => (try dsimp only); go_keep
            refine HeadW.take (i := 0) (v := ?v0t3) rfl (by kernel_rfl) (by decide) (by kernel_rfl) (by kernel_rfl) (fun _ _ _ h => h) (Or.inl ⟨by rfl, ?hy0t3⟩) (by assumption) ?rest0t3
            case hy0t3 => intro w hSw; (try dsimp only at hSw); (try simp only [List.getElem_toArray, List.getElem_cons_zero]); go_simp; (try with_reducible rfl)
            (try simp only [List.getElem_toArray, List.getElem_cons_zero, Act.put, List.setIfInBounds_toArray, List.set_cons_zero, List.set_cons_succ])
            refine HeadW.one (i := 1) (by kernel_rfl) (by decide) rfl (fun K hK => ?_)
            go_simp
            (go_at_call 42; (with_reducible refine (rzof_any 1 (by decide) (by decide) _).mono ?_); rintro e wo ⟨zo, Ao, co, rfl, hzo, hro, hbo⟩; have jo : Below w5.heap.size w5 wo := bst (by repeat (first | exact Below.refl _ _ | exact jo | exact jb | apply bdw | (refine bdn ?_ _) | (refine bal ?_ (Nat.le_refl _) _))) hbo (Nat.le_refl _); obtain ⟨x0o, y0o, u0o, v0o⟩ := (B5'.out.below jo B5'.out.lt).two; obtain ⟨x1o, y1o, u1o, v1o⟩ := (B2'.out.below jo B2'.out.lt).two)
            (try go_wp2_with fail)
            refine hK.out _ _ ?hS1t3 (fun hHeld2 => ?_)
            case hS1t3 => (try dsimp only); go_keep
            clear hK K hHeld
            have hHeld := hHeld2
            clear hHeld2
            (try simp only [List.getElem_toArray, List.getElem_cons_succ, List.getElem_cons_zero, Act.put, List.setIfInBounds_toArray, List.set_cons_zero, List.set_cons_succ])
            refine HeadW.one (i := 2) (by kernel_rfl) (by decide) rfl (fun K hK => ?_)
            go_simp
            (go_at_call 24; (with_reducible refine (AQ5.out zo Ao co _ wo _ (by repeat (first | exact Below.refl _ _ | exact jo | exact jb | apply bdw | (refine bdn ?_ _) | (refine bal ?_ (Nat.le_refl _) _))) hzo hro (by repeat (first | exact Below.refl _ _ | apply bdw | (refine bdn ?_ _)))).mono ?_); rintro e wb ⟨zb, Ab, cb, rfl, hzb, hrb, hbb⟩; have jb : Below w5.heap.size w5 wb := bst (by repeat (first | exact Below.refl _ _ | exact jo | exact jb | apply bdw | (refine bdn ?_ _) | (refine bal ?_ (Nat.le_refl _) _))) hbb (Nat.le_refl _); obtain ⟨x0b, y0b, u0b, v0b⟩ := (B5'.out.below jb B5'.out.lt).two; obtain ⟨x1b, y1b, u1b, v1b⟩ := (B2'.out.below jb B2'.out.lt).two)
            (try go_wp2_with fail)
            refine hK.out _ _ ?hS2t3 (fun hHeld2 => ?_)
            case hS2t3 => (try dsimp only); go_keep
            clear hK K hHeld
            have hHeld := hHeld2
            clear hHeld2
            (try simp only [List.getElem_toArray, List.getElem_cons_succ, List.getElem_cons_zero, Act.put, List.setIfInBounds_toArray, List.set_cons_zero, List.set_cons_succ])
            refine HeadW.done (by kernel_rfl) ?_
            simp only [List.drop_succ_cons, List.drop_zero]
            go_wp2_with fail
            have so9 : w.heap.size ≤ wo.heap.size := Nat.le_trans s5 jo.size
            rw [HU.out]
            exact zretT (bst K5.out jb (Nat.le_refl _)) (B2'.out.below jb B2'.out.lt) (by omega) hzb (hrb.mono so9) rfl rfl rfl rfl
        · have HU : Hid (nearZ z y = Q) := by show _ = _; rw [HN.out, near_dn hyp.out hs9 hod hd, ← HQ.out]
          clear hs9 hod AQ Hsg HQ HR p2 p3
          obtain ⟨q0, q1, q2, q3⟩ := B2'.out.two
          rcases hd with rfl | ⟨rfl, rfl⟩
          all_goals
            go_wp2_with fail
            rw [HU.out]
            exact zretT K5.out B2'.out (by omega) Hq.out rq rfl rfl rfl rfl
end
end Go.Proofs.YtanlejlmckdeiaaGreat
