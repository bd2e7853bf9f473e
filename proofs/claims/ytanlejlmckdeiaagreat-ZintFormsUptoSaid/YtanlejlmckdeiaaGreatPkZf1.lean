/- The walk of the law ZintForms. Conditions: at most 2^20 limbs each. -/
import Derived.Test.YtanlejlmckdeiaaGreatPkZs30
import Derived.Test.YtanlejlmckdeiaaGreatPkZs9
import Derived.Test.YtanlejlmckdeiaaGreatPkZf0
namespace Go.Proofs.YtanlejlmckdeiaaGreat
open Go.RowKit

section
variable {w : World} {g g2 : Bool} {A A2 : Option Addr} {c c2 : Nat} {xs ys : List Nat} {z y : Int}
theorem in_pos {z v : Int} (h : z ≤ v) : decide ((z - v).sign ≤ 0) = true := by
  rcases sign_cases (z - v) with ⟨a, b⟩ | ⟨a, b⟩ | ⟨a, b⟩ <;> rw [b] <;> first | rfl | omega
theorem in_neg {z v : Int} (h : ¬ z ≤ v) : decide ((z - v).sign ≤ 0) = false := by
  rcases sign_cases (z - v) with ⟨a, b⟩ | ⟨a, b⟩ | ⟨a, b⟩ <;> rw [b] <;> first | rfl | omega
theorem in_ge {z v : Int} (h : v ≤ z) : decide (0 ≤ (z - v).sign) = true := by
  rcases sign_cases (z - v) with ⟨a, b⟩ | ⟨a, b⟩ | ⟨a, b⟩ <;> rw [b] <;> first | rfl | omega
theorem in_lt {z v : Int} (h : ¬ v ≤ z) : decide (0 ≤ (z - v).sign) = false := by
  rcases sign_cases (z - v) with ⟨a, b⟩ | ⟨a, b⟩ | ⟨a, b⟩ <;> rw [b] <;> first | rfl | omega
set_option maxHeartbeats 12800000 in
set_option maxRecDepth 20000 in
theorem forms_walk (N : Nat) (hN : N ≤ 1048576) (hN3 : 3 ≤ N) (h : Zh w g A c xs z N) (h2 : Zh w g2 A2 c2 ys y N) (n : Int) (hn : -9223372036854775808 ≤ n ∧ n ≤ 9223372036854775807) :
    Calls Tryz.prog 3 #[.agg #[.bool g, .slice A xs.length c], .agg #[.bool g2, .slice A2 ys.length c2], .int .i64 n] w fun e w' => e = .returned (.bool true) ∧ Below w.heap.size w w' := by
  have hl1 := h.hv.len
  have k0 := bel_two w (.cells #[.bool g, .slice A xs.length c] 25) (.cells #[.bool g2, .slice A2 ys.length c2] 25)
  obtain ⟨b0, b1⟩ := blk_pair2 w (.bool g) (.slice A xs.length c) (.bool g2) (.slice A2 ys.length c2)
  have hlz := h.lt
  have LZ := Lib.hid hlz
  have LN : Hid (n.natAbs < 4294967296 ^ 3) := by show _ < _; rw [show (4294967296 : Nat) ^ 3 = 79228162514264337593543950336 from by decide]; omega
  have H := Lib.hid h
  have H2 := Lib.hid h2
  have Hn := Lib.hid hn
  obtain ⟨ok, hok⟩ : ∃ b, b = decide (in64 z) := ⟨_, rfl⟩
  obtain ⟨vv, hvv⟩ : ∃ v, v = if in64 z then z else 0 := ⟨_, rfl⟩
  have Hok := Lib.hid hok
  have Hvv := Lib.hid hvv
  have CX : Hid (∀ W (_ : Below w.heap.size w W), Calls Tryz.prog 7 #[.agg #[.bool g, .slice A xs.length c]] W fun e w' => ∃ A' c', e = .returned (.agg #[.bool g, .slice A' xs.length c']) ∧ xs.length ≤ c' ∧ Rs w' W.heap.size A' (u32s xs) ∧ Below W.heap.size W w') := fun W hW => copy_any (h.next hW).hv.rd (by omega)
  clear h h2 hok hvv hlz hn
  go_enter Tryz.func3, Tryz.ntmps3
  go_wp2_with fail
  refine (CX.out _ k0).mono ?_
  rintro e w1 ⟨Ax, cx, rfl, hcx, hrx, hb1⟩
  have k1 := bst k0 hb1 (Nat.le_refl _)
  replace b0 := b0.below hb1 b0.lt
  replace b1 := b1.below hb1 b1.lt
  have hX1 : Zh w1 g Ax cx xs z N := ⟨⟨H.out.hv.dig, H.out.hv.val_, hrx.rd, hcx, hl1⟩, H.out.sg⟩
  have I1 : Hid (∀ W (_ : Below w1.heap.size w1 W), Calls Tryz.prog 8 #[.agg #[.bool g, .slice Ax xs.length cx]] W fun e w' => e = .returned (.tuple #[.int .i64 vv, .bool ok]) ∧ Below W.heap.size W w') := fun W hW => by
    have h9 := (hX1.next hW).int64 (by omega)
    unfold I64Out at h9
    rwa [← Hok.out, ← Hvv.out] at h9
  have HX1 := Lib.hid hX1
  clear CX hX1 hrx hcx hb1 k0
  go_wp2_with fail
  refine (I1.out _ (bal (Below.refl _ _) (Nat.le_refl _) _)).mono ?_
  rintro e w2 ⟨rfl, hb2⟩
  have j1 : Below w1.heap.size w1 w2 := bst (bal (Below.refl _ _) (Nat.le_refl _) _) hb2 (Nat.le_refl _)
  have b7 : Blk w2 w1.heap.size 25 [.bool g, .slice Ax xs.length cx] := (blk_one w1 _ _).below hb2 (by simp)
  obtain ⟨g7, hg7⟩ : ∃ g, g = w1.heap.size := ⟨_, rfl⟩
  rw [← hg7] at b7 ⊢
  have kc := bst k1 j1 (Nat.le_refl _)
  replace b0 := b0.below j1 b0.lt
  replace b1 := b1.below j1 b1.lt
  have hX := HX1.out.next j1
  have hA := H.out.next kc
  have hB := H2.out.next kc
  clear hg7 j1 hb2 k1 I1 HX1


  have RC : (∀ (v : Int) (zo : List Nat) (Ao : Option Addr) (co Bo : Nat) (wo W : World), v.natAbs < 4294967296 ^ 3 → Below w2.heap.size w2 W → Num 4294967296 zo v.natAbs → Res wo Bo 36 Ao co (u32s zo) → Below wo.heap.size wo W → Calls Tryz.prog 9 #[.agg #[.bool g, .slice A xs.length c], .agg #[.bool (isNeg v), .slice Ao zo.length co]] W fun e w' => e = .returned (.int .i64 (z - v).sign) ∧ Below W.heap.size W w') := fun v zo Ao co Bo wo W hv hW n1 r1 b1 =>
    Zh.rcmp (hA.next hW) ((Zn.shrink (K := 3) n1 r1 hv).next b1).zh (by omega) (by omega)

  obtain ⟨s1, hs1⟩ : ∃ s, s = (z - (-9223372036854775808)).sign := ⟨_, rfl⟩
  obtain ⟨s2, hs2⟩ : ∃ s, s = (z - 9223372036854775807).sign := ⟨_, rfl⟩
  have RC1 := RC (-9223372036854775808)
  have RC2 := RC 9223372036854775807
  rw [← hs1] at RC1
  rw [← hs2] at RC2
  have RC1 := Lib.hid RC1
  have RC2 := Lib.hid RC2
  have HS1 := Lib.hid hs1
  have HS2 := Lib.hid hs2
  clear RC hs1 hs2

  have NX : Hid (∀ W (_ : Below w2.heap.size w2 W), Calls Tryz.prog 13 #[.agg #[.bool g, .slice Ax xs.length cx]] W fun e w' => ZOut W w' (z) e) := fun W hW => (hX.next hW).norm (by omega)

  have NA : Hid (∀ W (_ : Below w2.heap.size w2 W), Calls Tryz.prog 12 #[.agg #[.bool g, .slice A xs.length c]] W fun e w' => ZOut W w' (z) e) := fun W hW => (hA.next hW).rnorm (by omega)

  have SX : Hid (∀ W (_ : Below w2.heap.size w2 W), Calls Tryz.prog 15 #[.agg #[.bool g, .slice Ax xs.length cx]] W fun e w' => e = .returned (.int .i64 (z.sign)) ∧ Below W.heap.size W w') := fun W hW => (hX.next hW).sign (by omega)

  have SA : Hid (∀ W (_ : Below w2.heap.size w2 W), Calls Tryz.prog 16 #[.agg #[.bool g, .slice A xs.length c]] W fun e w' => e = .returned (.int .i64 (z.sign)) ∧ Below W.heap.size W w') := fun W hW => (hA.next hW).rsign (by omega)

  have KX : Hid (∀ W (_ : Below w2.heap.size w2 W), Calls Tryz.prog 17 #[.agg #[.bool g, .slice Ax xs.length cx], .agg #[.bool g2, .slice A2 ys.length c2]] W fun e w' => e = .returned (.int .i64 ((z - y).sign)) ∧ Below W.heap.size W w') := fun W hW => (hX.next hW).cmp (hB.next hW) (by omega) (by omega)

  have KA : Hid (∀ W (_ : Below w2.heap.size w2 W), Calls Tryz.prog 9 #[.agg #[.bool g, .slice A xs.length c], .agg #[.bool g2, .slice A2 ys.length c2]] W fun e w' => e = .returned (.int .i64 ((z - y).sign)) ∧ Below W.heap.size W w') := fun W hW => (hA.next hW).rcmp (hB.next hW) (by omega) (by omega)

  have GX : Hid (∀ W (_ : Below w2.heap.size w2 W), Calls Tryz.prog 18 #[.agg #[.bool g, .slice Ax xs.length cx]] W fun e w' => ZOut W w' (-z) e) := fun W hW => (hX.next hW).neg (by omega)

  have GA : Hid (∀ W (_ : Below w2.heap.size w2 W), Calls Tryz.prog 19 #[.agg #[.bool g, .slice A xs.length c]] W fun e w' => ZOut W w' (-z) e) := fun W hW => (hA.next hW).rneg (by omega)

  have BX : Hid (∀ W (_ : Below w2.heap.size w2 W), Calls Tryz.prog 20 #[.agg #[.bool g, .slice Ax xs.length cx]] W fun e w' => ZOut W w' ((z.natAbs : Int)) e) := fun W hW => (hX.next hW).abs (by omega)

  have BA : Hid (∀ W (_ : Below w2.heap.size w2 W), Calls Tryz.prog 21 #[.agg #[.bool g, .slice A xs.length c]] W fun e w' => ZOut W w' ((z.natAbs : Int)) e) := fun W hW => (hA.next hW).rabs (by omega)

  have XA : Hid (∀ W (_ : Below w2.heap.size w2 W), Calls Tryz.prog 11 #[.agg #[.bool g, .slice Ax xs.length cx], .agg #[.bool g, .slice A xs.length c]] W fun e w' => e = .returned (.bool true) ∧ Below W.heap.size W w') := fun W hW => lsame_any g (hX.next hW).hv.rd (hA.next hW).hv.rd (by omega)

  have GZ : Hid (∀ (zp : List Nat) (Ap : Option Addr) (cp Bp : Nat) (wp : World) (zq : List Nat) (Aq : Option Addr) (cq Bq : Nat) (wq W : World), Num 4294967296 zp (z).natAbs → Res wp Bp 36 Ap cp (u32s zp) → Below wp.heap.size wp W → Num 4294967296 zq (z).natAbs → Res wq Bq 36 Aq cq (u32s zq) → Below wq.heap.size wq W → Calls Tryz.prog 11 #[.agg #[.bool (isNeg (z)), .slice Ap zp.length cp], .agg #[.bool (isNeg (z)), .slice Aq zq.length cq]] W fun e w' => e = .returned (.bool true) ∧ Below W.heap.size W w') := fun zp Ap cp Bp wp zq Aq cq Bq wq W n1 r1 b1 n2 r2 b2 =>
    Zn.same (K := N) (J := N) ((Zn.shrink n1 r1 LZ.out).next b1) ((Zn.shrink n2 r2 LZ.out).next b2) rfl (by omega)

  have GN : Hid (∀ (zp : List Nat) (Ap : Option Addr) (cp Bp : Nat) (wp : World) (zq : List Nat) (Aq : Option Addr) (cq Bq : Nat) (wq W : World), Num 4294967296 zp (n).natAbs → Res wp Bp 36 Ap cp (u32s zp) → Below wp.heap.size wp W → Num 4294967296 zq (n).natAbs → Res wq Bq 36 Aq cq (u32s zq) → Below wq.heap.size wq W → Calls Tryz.prog 11 #[.agg #[.bool (isNeg (n)), .slice Ap zp.length cp], .agg #[.bool (isNeg (n)), .slice Aq zq.length cq]] W fun e w' => e = .returned (.bool true) ∧ Below W.heap.size W w') := fun zp Ap cp Bp wp zq Aq cq Bq wq W n1 r1 b1 n2 r2 b2 =>
    Zn.same (K := 3) (J := 3) ((Zn.shrink n1 r1 LN.out).next b1) ((Zn.shrink n2 r2 LN.out).next b2) rfl (by omega)

  have LG : Hid ((-z).natAbs < 4294967296 ^ N) := by show _ < _; rw [Int.natAbs_neg]; exact LZ.out
  have LB : Hid (((z.natAbs : Int)).natAbs < 4294967296 ^ N) := by show _ < _; rw [Int.natAbs_natCast]; exact LZ.out

  have GG : Hid (∀ (zp : List Nat) (Ap : Option Addr) (cp Bp : Nat) (wp : World) (zq : List Nat) (Aq : Option Addr) (cq Bq : Nat) (wq W : World), Num 4294967296 zp (-z).natAbs → Res wp Bp 36 Ap cp (u32s zp) → Below wp.heap.size wp W → Num 4294967296 zq (-z).natAbs → Res wq Bq 36 Aq cq (u32s zq) → Below wq.heap.size wq W → Calls Tryz.prog 11 #[.agg #[.bool (isNeg (-z)), .slice Ap zp.length cp], .agg #[.bool (isNeg (-z)), .slice Aq zq.length cq]] W fun e w' => e = .returned (.bool true) ∧ Below W.heap.size W w') := fun zp Ap cp Bp wp zq Aq cq Bq wq W n1 r1 b1 n2 r2 b2 =>
    Zn.same (K := N) (J := N) ((Zn.shrink n1 r1 LG.out).next b1) ((Zn.shrink n2 r2 LG.out).next b2) rfl (by omega)

  have GB : Hid (∀ (zp : List Nat) (Ap : Option Addr) (cp Bp : Nat) (wp : World) (zq : List Nat) (Aq : Option Addr) (cq Bq : Nat) (wq W : World), Num 4294967296 zp ((z.natAbs : Int)).natAbs → Res wp Bp 36 Ap cp (u32s zp) → Below wp.heap.size wp W → Num 4294967296 zq ((z.natAbs : Int)).natAbs → Res wq Bq 36 Aq cq (u32s zq) → Below wq.heap.size wq W → Calls Tryz.prog 11 #[.agg #[.bool (isNeg ((z.natAbs : Int))), .slice Ap zp.length cp], .agg #[.bool (isNeg ((z.natAbs : Int))), .slice Aq zq.length cq]] W fun e w' => e = .returned (.bool true) ∧ Below W.heap.size W w') := fun zp Ap cp Bp wp zq Aq cq Bq wq W n1 r1 b1 n2 r2 b2 =>
    Zn.same (K := N) (J := N) ((Zn.shrink n1 r1 LB.out).next b1) ((Zn.shrink n2 r2 LB.out).next b2) rfl (by omega)

  have B7 := Lib.hid b7
  have B0 := Lib.hid b0
  have B1 := Lib.hid b1
  obtain ⟨p0, p1, _, _⟩ := b0.two
  obtain ⟨p2, p3, _, _⟩ := b7.two
  obtain ⟨p4, p5, _, _⟩ := b1.two
  clear hX hA hB b7 b0 b1
  go_wp2_with fail
  go_cut [10] (fun v W => v = .bool ok ∧ Below w2.heap.size w2 W)
  case first =>

    by_cases hlo : -9223372036854775808 ≤ z
    · by_cases hhi : z ≤ 9223372036854775807

      · have e9 : ok = true := by rw [Hok.out]; exact decide_eq_true ⟨hlo, hhi⟩
        subst e9
        have q1 : s1 = 0 ∨ s1 = 1 := by rw [HS1.out]; rcases sign_cases (z - (-9223372036854775808)) with ⟨a, b⟩ | ⟨a, b⟩ | ⟨a, b⟩ <;> rw [b] <;> first | omega | simp
        have q2 : s2 = -1 ∨ s2 = 0 := by rw [HS2.out]; rcases sign_cases (z - 9223372036854775807) with ⟨a, b⟩ | ⟨a, b⟩ | ⟨a, b⟩ <;> rw [b] <;> first | omega | simp
        clear Hok Hvv HS1 HS2 hlo hhi
        rcases q1 with rfl | rfl
        all_goals rcases q2 with rfl | rfl
        all_goals
          go_region_held3 (fun W => W.cell? ⟨w.heap.size, 0, none⟩ = some (.bool g) ∧ W.cell? ⟨w.heap.size, 1, none⟩ = some (.slice A xs.length c)) (go_keep) (first
            | (go_at_call 10; (with_reducible refine (lof_any (-9223372036854775808) (by decide) (by decide) _).mono ?_); rintro e wo ⟨zo, Ao, co, rfl, hzo, hro, hbo⟩; have jo : Below w2.heap.size w2 wo := bst (by repeat (first | exact Below.refl _ _ | exact jo | exact jp | exact jq | exact jr | apply bdw | (refine bdn ?_ _) | (refine bal ?_ (Nat.le_refl _) _))) hbo (Nat.le_refl _); obtain ⟨x0o, y0o, u0o, v0o⟩ := (B0.out.below jo B0.out.lt).two; obtain ⟨xx0o, yy0o, uu0o, vv0o⟩ := two_al (B0.out.below jo B0.out.lt))
            | (go_at_call 9; (with_reducible refine (RC1.out zo Ao co _ wo _ (by decide) (by repeat (first | exact Below.refl _ _ | exact jo | exact jp | exact jq | exact jr | apply bdw | (refine bdn ?_ _) | (refine bal ?_ (Nat.le_refl _) _))) hzo hro (by repeat (first | exact Below.refl _ _ | apply bdw | (refine bdn ?_ _) | (refine bal ?_ (Nat.le_refl _) _)))).mono ?_); rintro e wp ⟨rfl, hbp⟩; have jp : Below w2.heap.size w2 wp := bst (by repeat (first | exact Below.refl _ _ | exact jo | exact jp | exact jq | exact jr | apply bdw | (refine bdn ?_ _) | (refine bal ?_ (Nat.le_refl _) _))) hbp (Nat.le_refl _); obtain ⟨x0p, y0p, u0p, v0p⟩ := (B0.out.below jp B0.out.lt).two; obtain ⟨xx0p, yy0p, uu0p, vv0p⟩ := two_al (B0.out.below jp B0.out.lt))
            | (go_at_call 10; (with_reducible refine (lof_any 9223372036854775807 (by decide) (by decide) _).mono ?_); rintro e wq ⟨zq, Aq, cq, rfl, hzq, hrq, hbq⟩; have jq : Below w2.heap.size w2 wq := bst (by repeat (first | exact Below.refl _ _ | exact jo | exact jp | exact jq | exact jr | apply bdw | (refine bdn ?_ _) | (refine bal ?_ (Nat.le_refl _) _))) hbq (Nat.le_refl _); obtain ⟨x0q, y0q, u0q, v0q⟩ := (B0.out.below jq B0.out.lt).two; obtain ⟨xx0q, yy0q, uu0q, vv0q⟩ := two_al (B0.out.below jq B0.out.lt))
            | (go_at_call 9; (with_reducible refine (RC2.out zq Aq cq _ wq _ (by decide) (by repeat (first | exact Below.refl _ _ | exact jo | exact jp | exact jq | exact jr | apply bdw | (refine bdn ?_ _) | (refine bal ?_ (Nat.le_refl _) _))) hzq hrq (by repeat (first | exact Below.refl _ _ | apply bdw | (refine bdn ?_ _) | (refine bal ?_ (Nat.le_refl _) _)))).mono ?_); rintro e wr ⟨rfl, hbr⟩; have jr : Below w2.heap.size w2 wr := bst (by repeat (first | exact Below.refl _ _ | exact jo | exact jp | exact jq | exact jr | apply bdw | (refine bdn ?_ _) | (refine bal ?_ (Nat.le_refl _) _))) hbr (Nat.le_refl _); obtain ⟨x0r, y0r, u0r, v0r⟩ := (B0.out.below jr B0.out.lt).two; obtain ⟨xx0r, yy0r, uu0r, vv0r⟩ := two_al (B0.out.below jr B0.out.lt)))
          all_goals
            go_wp2_with fail
            go_meet
            exact ⟨rfl, jr⟩

      · have e9 : ok = false := by rw [Hok.out]; exact decide_eq_false (fun h9 => hhi h9.2)
        subst e9
        have q1 : s1 = 0 ∨ s1 = 1 := by rw [HS1.out]; rcases sign_cases (z - (-9223372036854775808)) with ⟨a, b⟩ | ⟨a, b⟩ | ⟨a, b⟩ <;> rw [b] <;> first | omega | simp
        have q2 : s2 = 1 := by rw [HS2.out]; rcases sign_cases (z - 9223372036854775807) with ⟨a, b⟩ | ⟨a, b⟩ | ⟨a, b⟩ <;> rw [b] <;> first | omega | simp
        clear Hok Hvv HS1 HS2 hlo hhi
        rcases q1 with rfl | rfl
        all_goals rcases q2 with rfl
        all_goals
          go_region_held3 (fun W => W.cell? ⟨w.heap.size, 0, none⟩ = some (.bool g) ∧ W.cell? ⟨w.heap.size, 1, none⟩ = some (.slice A xs.length c)) (go_keep) (first
            | (go_at_call 10; (with_reducible refine (lof_any (-9223372036854775808) (by decide) (by decide) _).mono ?_); rintro e wo ⟨zo, Ao, co, rfl, hzo, hro, hbo⟩; have jo : Below w2.heap.size w2 wo := bst (by repeat (first | exact Below.refl _ _ | exact jo | exact jp | exact jq | exact jr | apply bdw | (refine bdn ?_ _) | (refine bal ?_ (Nat.le_refl _) _))) hbo (Nat.le_refl _); obtain ⟨x0o, y0o, u0o, v0o⟩ := (B0.out.below jo B0.out.lt).two; obtain ⟨xx0o, yy0o, uu0o, vv0o⟩ := two_al (B0.out.below jo B0.out.lt))
            | (go_at_call 9; (with_reducible refine (RC1.out zo Ao co _ wo _ (by decide) (by repeat (first | exact Below.refl _ _ | exact jo | exact jp | exact jq | exact jr | apply bdw | (refine bdn ?_ _) | (refine bal ?_ (Nat.le_refl _) _))) hzo hro (by repeat (first | exact Below.refl _ _ | apply bdw | (refine bdn ?_ _) | (refine bal ?_ (Nat.le_refl _) _)))).mono ?_); rintro e wp ⟨rfl, hbp⟩; have jp : Below w2.heap.size w2 wp := bst (by repeat (first | exact Below.refl _ _ | exact jo | exact jp | exact jq | exact jr | apply bdw | (refine bdn ?_ _) | (refine bal ?_ (Nat.le_refl _) _))) hbp (Nat.le_refl _); obtain ⟨x0p, y0p, u0p, v0p⟩ := (B0.out.below jp B0.out.lt).two; obtain ⟨xx0p, yy0p, uu0p, vv0p⟩ := two_al (B0.out.below jp B0.out.lt))
            | (go_at_call 10; (with_reducible refine (lof_any 9223372036854775807 (by decide) (by decide) _).mono ?_); rintro e wq ⟨zq, Aq, cq, rfl, hzq, hrq, hbq⟩; have jq : Below w2.heap.size w2 wq := bst (by repeat (first | exact Below.refl _ _ | exact jo | exact jp | exact jq | exact jr | apply bdw | (refine bdn ?_ _) | (refine bal ?_ (Nat.le_refl _) _))) hbq (Nat.le_refl _); obtain ⟨x0q, y0q, u0q, v0q⟩ := (B0.out.below jq B0.out.lt).two; obtain ⟨xx0q, yy0q, uu0q, vv0q⟩ := two_al (B0.out.below jq B0.out.lt))
            | (go_at_call 9; (with_reducible refine (RC2.out zq Aq cq _ wq _ (by decide) (by repeat (first | exact Below.refl _ _ | exact jo | exact jp | exact jq | exact jr | apply bdw | (refine bdn ?_ _) | (refine bal ?_ (Nat.le_refl _) _))) hzq hrq (by repeat (first | exact Below.refl _ _ | apply bdw | (refine bdn ?_ _) | (refine bal ?_ (Nat.le_refl _) _)))).mono ?_); rintro e wr ⟨rfl, hbr⟩; have jr : Below w2.heap.size w2 wr := bst (by repeat (first | exact Below.refl _ _ | exact jo | exact jp | exact jq | exact jr | apply bdw | (refine bdn ?_ _) | (refine bal ?_ (Nat.le_refl _) _))) hbr (Nat.le_refl _); obtain ⟨x0r, y0r, u0r, v0r⟩ := (B0.out.below jr B0.out.lt).two; obtain ⟨xx0r, yy0r, uu0r, vv0r⟩ := two_al (B0.out.below jr B0.out.lt)))
          all_goals
            go_wp2_with fail
            go_meet
            exact ⟨rfl, jr⟩

    · have e9 : ok = false := by rw [Hok.out]; exact decide_eq_false (fun h9 => hlo h9.1)
      subst e9
      have q1 : s1 = -1 := by rw [HS1.out]; rcases sign_cases (z - (-9223372036854775808)) with ⟨a, b⟩ | ⟨a, b⟩ | ⟨a, b⟩ <;> rw [b] <;> first | omega | simp
      clear Hok Hvv HS1 HS2 hlo
      rcases q1 with rfl
      all_goals
        go_region_with (first
          | (go_at_call 10; (with_reducible refine (lof_any (-9223372036854775808) (by decide) (by decide) _).mono ?_); rintro e wo ⟨zo, Ao, co, rfl, hzo, hro, hbo⟩; have jo : Below w2.heap.size w2 wo := bst (by repeat (first | exact Below.refl _ _ | exact jo | exact jp | exact jq | exact jr | apply bdw | (refine bdn ?_ _) | (refine bal ?_ (Nat.le_refl _) _))) hbo (Nat.le_refl _); obtain ⟨x0o, y0o, u0o, v0o⟩ := (B0.out.below jo B0.out.lt).two; obtain ⟨xx0o, yy0o, uu0o, vv0o⟩ := two_al (B0.out.below jo B0.out.lt))
          | (go_at_call 9; (with_reducible refine (RC1.out zo Ao co _ wo _ (by decide) (by repeat (first | exact Below.refl _ _ | exact jo | exact jp | exact jq | exact jr | apply bdw | (refine bdn ?_ _) | (refine bal ?_ (Nat.le_refl _) _))) hzo hro (by repeat (first | exact Below.refl _ _ | apply bdw | (refine bdn ?_ _) | (refine bal ?_ (Nat.le_refl _) _)))).mono ?_); rintro e wp ⟨rfl, hbp⟩; have jp : Below w2.heap.size w2 wp := bst (by repeat (first | exact Below.refl _ _ | exact jo | exact jp | exact jq | exact jr | apply bdw | (refine bdn ?_ _) | (refine bal ?_ (Nat.le_refl _) _))) hbp (Nat.le_refl _); obtain ⟨x0p, y0p, u0p, v0p⟩ := (B0.out.below jp B0.out.lt).two; obtain ⟨xx0p, yy0p, uu0p, vv0p⟩ := two_al (B0.out.below jp B0.out.lt))
          | (go_at_call 10; (with_reducible refine (lof_any 9223372036854775807 (by decide) (by decide) _).mono ?_); rintro e wq ⟨zq, Aq, cq, rfl, hzq, hrq, hbq⟩; have jq : Below w2.heap.size w2 wq := bst (by repeat (first | exact Below.refl _ _ | exact jo | exact jp | exact jq | exact jr | apply bdw | (refine bdn ?_ _) | (refine bal ?_ (Nat.le_refl _) _))) hbq (Nat.le_refl _); obtain ⟨x0q, y0q, u0q, v0q⟩ := (B0.out.below jq B0.out.lt).two; obtain ⟨xx0q, yy0q, uu0q, vv0q⟩ := two_al (B0.out.below jq B0.out.lt))
          | (go_at_call 9; (with_reducible refine (RC2.out zq Aq cq _ wq _ (by decide) (by repeat (first | exact Below.refl _ _ | exact jo | exact jp | exact jq | exact jr | apply bdw | (refine bdn ?_ _) | (refine bal ?_ (Nat.le_refl _) _))) hzq hrq (by repeat (first | exact Below.refl _ _ | apply bdw | (refine bdn ?_ _) | (refine bal ?_ (Nat.le_refl _) _)))).mono ?_); rintro e wr ⟨rfl, hbr⟩; have jr : Below w2.heap.size w2 wr := bst (by repeat (first | exact Below.refl _ _ | exact jo | exact jp | exact jq | exact jr | apply bdw | (refine bdn ?_ _) | (refine bal ?_ (Nat.le_refl _) _))) hbr (Nat.le_refl _); obtain ⟨x0r, y0r, u0r, v0r⟩ := (B0.out.below jr B0.out.lt).two; obtain ⟨xx0r, yy0r, uu0r, vv0r⟩ := two_al (B0.out.below jr B0.out.lt)))
        all_goals
          go_wp2_with fail
          go_meet
          exact ⟨rfl, jp⟩

  case rest =>
    obtain ⟨rfl, jc⟩ := hcut
    obtain ⟨w3, rfl⟩ : ∃ w3 : World, w3 = wc := ⟨_, rfl⟩
    have J3 := Lib.hid (jc)
    have B7' := Lib.hid (B7.out.below jc B7.out.lt)
    have B0' := Lib.hid (B0.out.below jc B0.out.lt)
    have B1' := Lib.hid (B1.out.below jc B1.out.lt)
    clear B7 B0 B1 jc p0 p1 p2 p3 p4 p5
    have B7 := B7'
    have B0 := B0'
    have B1 := B1'
    clear B7' B0' B1'
    obtain ⟨p0, p1, _, _⟩ := B0.out.two
    obtain ⟨p2, p3, _, _⟩ := B7.out.two
    obtain ⟨p4, p5, _, _⟩ := B1.out.two
    clear RC1 RC2 HS1 HS2
    go_wp2_with fail
    go_cut [49] (fun v W => v = .bool false ∧ Below w3.heap.size w3 W)
    case first =>
      by_cases hin : in64 z
      · have e1 : ok = true := by rw [Hok.out]; exact decide_eq_true hin
        have e2 : vv = z := by rw [Hvv.out]; exact if_pos hin
        have OZ : Hid (∀ W, Calls Tryz.prog 10 #[.int .i64 z] W fun e w' => ZOut W w' z e) := fun W => lof_any z hin.1 hin.2 W
        subst e1 e2
        clear hin Hok Hvv p2 p3 p4 p5 B7 B1 NX SX SA KX KA GX GA BX BA XA GN LG LB GG GB H H2 Hn LN LZ
        refine wp_region_held_drew (S := fun W => W.cell? ⟨w.heap.size, 0, none⟩ = some (.bool g) ∧ W.cell? ⟨w.heap.size, 1, none⟩ = some (.slice A xs.length c)) (by kernel_rfl) ?hSx (fun hHeld => ?_)
        case hSx => (try dsimp only); go_keep
        refine wpAnyH_take (i := 0) (v := ?v0x) rfl (by kernel_rfl) (by kernel_rfl) (by kernel_rfl) (fun _ _ _ h => h) (Or.inl ⟨by rfl, ?hy0x⟩) (by assumption) ?rest0x
        case hy0x => intro w hSw; (try dsimp only at hSw); (try simp only [List.getElem_toArray, List.getElem_cons_zero]); go_simp; (try with_reducible rfl)
        (try simp only [List.getElem_toArray, List.getElem_cons_zero, Act.put, List.setIfInBounds_toArray, List.set_cons_zero, List.set_cons_succ])
        refine wpAnyH_take (i := 1) (v := ?v1x) rfl (by kernel_rfl) (by kernel_rfl) (by kernel_rfl) (fun _ _ _ h => h) (Or.inl ⟨by rfl, ?hy1x⟩) (by assumption) ?rest1x
        case hy1x => intro w hSw; (try dsimp only at hSw); (try simp only [List.getElem_toArray, List.getElem_cons_succ, List.getElem_cons_zero]); go_simp; (try with_reducible rfl)
        (try simp only [List.getElem_toArray, List.getElem_cons_succ, List.getElem_cons_zero, Act.put, List.setIfInBounds_toArray, List.set_cons_zero, List.set_cons_succ])
        refine wpAnyH_take (i := 2) (v := ?v2x) rfl (by kernel_rfl) (by kernel_rfl) (by kernel_rfl) (fun _ _ _ h => h) (Or.inl ⟨by rfl, ?hy2x⟩) (by assumption) ?rest2x
        case hy2x => intro w hSw; (try dsimp only at hSw); (try simp only [List.getElem_toArray, List.getElem_cons_succ, List.getElem_cons_zero]); go_simp; (try with_reducible rfl)
        (try simp only [List.getElem_toArray, List.getElem_cons_succ, List.getElem_cons_zero, Act.put, List.setIfInBounds_toArray, List.set_cons_zero, List.set_cons_succ])
        refine wpAnyH_take (i := 3) (v := ?v3x) rfl (by kernel_rfl) (by kernel_rfl) (by kernel_rfl) (fun _ _ _ h => h) (Or.inl ⟨by rfl, ?hy3x⟩) (by assumption) ?rest3x
        case hy3x => intro w hSw; (try dsimp only at hSw); (try simp only [List.getElem_toArray, List.getElem_cons_succ, List.getElem_cons_zero]); go_simp; (try with_reducible rfl)
        (try simp only [List.getElem_toArray, List.getElem_cons_succ, List.getElem_cons_zero, Act.put, List.setIfInBounds_toArray, List.set_cons_zero, List.set_cons_succ])
        refine wpAnyH_take (i := 4) (v := ?v4x) rfl (by kernel_rfl) (by kernel_rfl) (by kernel_rfl) (fun _ _ _ h => h) (Or.inl ⟨by rfl, ?hy4x⟩) (by assumption) ?rest4x
        case hy4x => intro w hSw; (try dsimp only at hSw); (try simp only [List.getElem_toArray, List.getElem_cons_succ, List.getElem_cons_zero]); go_simp; (try with_reducible rfl)
        (try simp only [List.getElem_toArray, List.getElem_cons_succ, List.getElem_cons_zero, Act.put, List.setIfInBounds_toArray, List.set_cons_zero, List.set_cons_succ])
        refine wpAnyH_take (i := 5) (v := ?v5x) rfl (by kernel_rfl) (by kernel_rfl) (by kernel_rfl) (fun _ _ _ h => h) (Or.inl ⟨by rfl, ?hy5x⟩) (by assumption) ?rest5x
        case hy5x => intro w hSw; (try dsimp only at hSw); (try simp only [List.getElem_toArray, List.getElem_cons_succ, List.getElem_cons_zero]); go_simp; (try with_reducible rfl)
        (try simp only [List.getElem_toArray, List.getElem_cons_succ, List.getElem_cons_zero, Act.put, List.setIfInBounds_toArray, List.set_cons_zero, List.set_cons_succ])
        refine wpAnyH_take (i := 6) (v := ?v6x) rfl (by kernel_rfl) (by kernel_rfl) (by kernel_rfl) (fun _ _ _ h => h) (Or.inl ⟨by rfl, ?hy6x⟩) (by assumption) ?rest6x
        case hy6x => intro w hSw; (try dsimp only at hSw); (try simp only [List.getElem_toArray, List.getElem_cons_succ, List.getElem_cons_zero]); go_simp; (try with_reducible rfl)
        (try simp only [List.getElem_toArray, List.getElem_cons_succ, List.getElem_cons_zero, Act.put, List.setIfInBounds_toArray, List.set_cons_zero, List.set_cons_succ])
        refine wpAnyH_take (i := 8) (v := ?v8x) rfl (by kernel_rfl) (by kernel_rfl) (by kernel_rfl) (fun _ _ _ h => h) (Or.inl ⟨by rfl, ?hy8x⟩) (by assumption) ?rest8x
        case hy8x => intro w hSw; (try dsimp only at hSw); (try simp only [List.getElem_toArray, List.getElem_cons_succ, List.getElem_cons_zero]); go_simp; (try with_reducible rfl)
        (try simp only [List.getElem_toArray, List.getElem_cons_succ, List.getElem_cons_zero, Act.put, List.setIfInBounds_toArray, List.set_cons_zero, List.set_cons_succ])
        refine wpAnyH_ready (rs := [7]) (by kernel_rfl) (by simp) ?_
        refine AllReadyH.cons rfl (fun K hK => ?_) AllReadyH.nil
        go_simp
        (go_at_call 10; (with_reducible refine (OZ.out _).mono ?_); rintro e wo ⟨zo, Ao, co, rfl, hzo, hro, hbo⟩; have jo : Below w3.heap.size w3 wo := bst (by repeat (first | exact Below.refl _ _ | exact jo | exact jp | exact js | apply bdw | (refine bdn ?_ _) | (refine bal ?_ (Nat.le_refl _) _))) hbo (Nat.le_refl _); obtain ⟨x0o, y0o, u0o, v0o⟩ := (B0.out.below jo B0.out.lt).two; obtain ⟨xx0o, yy0o, uu0o, vv0o⟩ := two_al (B0.out.below jo B0.out.lt))
        (try go_wp2_with fail)
        refine hK.out _ _ ?hS7x (fun hHeld2 => ?_)
        case hS7x => (try dsimp only); go_keep
        clear hK K hHeld
        have hHeld := hHeld2
        clear hHeld2
        (try simp only [List.getElem_toArray, List.getElem_cons_succ, List.getElem_cons_zero, Act.put, List.setIfInBounds_toArray, List.set_cons_zero, List.set_cons_succ])
        refine wpAnyH_ready (rs := [9]) (by kernel_rfl) (by simp) ?_
        refine AllReadyH.cons rfl (fun K hK => ?_) AllReadyH.nil
        go_simp
        (go_at_call 12; (with_reducible refine (NA.out _ (bst J3.out (by repeat (first | exact Below.refl _ _ | exact jo | exact jp | exact js | apply bdw | (refine bdn ?_ _) | (refine bal ?_ (Nat.le_refl _) _))) (Nat.le_refl _))).mono ?_); rintro e wp ⟨zp, Ap, cp, rfl, hzp, hrp, hbp⟩; have jp : Below w3.heap.size w3 wp := bst (by repeat (first | exact Below.refl _ _ | exact jo | exact jp | exact js | apply bdw | (refine bdn ?_ _) | (refine bal ?_ (Nat.le_refl _) _))) hbp (Nat.le_refl _); obtain ⟨x0p, y0p, u0p, v0p⟩ := (B0.out.below jp B0.out.lt).two; obtain ⟨xx0p, yy0p, uu0p, vv0p⟩ := two_al (B0.out.below jp B0.out.lt); have jop : Below wo.heap.size wo wp := bel_pre hbp (by repeat (first | exact Below.refl _ _ | apply bdw | (refine bdn ?_ _) | (refine bal ?_ (Nat.le_refl _) _))))
        (try go_wp2_with fail)
        refine hK.out _ _ ?hS9x (fun hHeld2 => ?_)
        case hS9x => (try dsimp only); go_keep
        clear hK K hHeld
        have hHeld := hHeld2
        clear hHeld2
        (try simp only [List.getElem_toArray, List.getElem_cons_succ, List.getElem_cons_zero, Act.put, List.setIfInBounds_toArray, List.set_cons_zero, List.set_cons_succ])
        refine wpAnyH_ready (rs := [10]) (by kernel_rfl) (by simp) ?_
        refine AllReadyH.cons rfl (fun K hK => ?_) AllReadyH.nil
        go_simp
        (go_at_call 11; (with_reducible refine (GZ.out zo Ao co _ wo zp Ap cp _ wp _ hzo hro (by first | exact jop | exact bdw jop | exact bdn jop _) hzp hrp (by repeat (first | exact Below.refl _ _ | apply bdw | (refine bdn ?_ _) | (refine bal ?_ (Nat.le_refl _) _)))).mono ?_); rintro e ws ⟨rfl, hbs⟩; have js : Below w3.heap.size w3 ws := bst (by repeat (first | exact Below.refl _ _ | exact jo | exact jp | exact js | apply bdw | (refine bdn ?_ _) | (refine bal ?_ (Nat.le_refl _) _))) hbs (Nat.le_refl _); obtain ⟨x0s, y0s, u0s, v0s⟩ := (B0.out.below js B0.out.lt).two; obtain ⟨xx0s, yy0s, uu0s, vv0s⟩ := two_al (B0.out.below js B0.out.lt))
        (try go_wp2_with fail)
        refine hK.out _ _ ?hS10x (fun hHeld2 => ?_)
        case hS10x => (try dsimp only); go_keep
        clear hK K hHeld
        have hHeld := hHeld2
        clear hHeld2
        (try simp only [List.getElem_toArray, List.getElem_cons_succ, List.getElem_cons_zero, Act.put, List.setIfInBounds_toArray, List.set_cons_zero, List.set_cons_succ])
        refine wpAnyH_take (i := 11) (v := ?v11x) rfl (by kernel_rfl) (by kernel_rfl) (by kernel_rfl) (fun _ _ _ h => h) (Or.inl ⟨by rfl, ?hy11x⟩) (by assumption) ?rest11x
        case hy11x => intro w hSw; (try dsimp only at hSw); (try simp only [List.getElem_toArray, List.getElem_cons_succ, List.getElem_cons_zero]); go_simp; (try with_reducible rfl)
        (try simp only [List.getElem_toArray, List.getElem_cons_succ, List.getElem_cons_zero, Act.put, List.setIfInBounds_toArray, List.set_cons_zero, List.set_cons_succ])
        refine wpAnyH_take (i := 12) (v := ?v12x) rfl (by kernel_rfl) (by kernel_rfl) (by kernel_rfl) (fun _ _ _ h => h) (Or.inl ⟨by rfl, ?hy12x⟩) (by assumption) ?rest12x
        case hy12x => intro w hSw; (try dsimp only at hSw); (try simp only [List.getElem_toArray, List.getElem_cons_succ, List.getElem_cons_zero]); go_simp; (try with_reducible rfl)
        (try simp only [List.getElem_toArray, List.getElem_cons_succ, List.getElem_cons_zero, Act.put, List.setIfInBounds_toArray, List.set_cons_zero, List.set_cons_succ])
        refine wpAnyH_take (i := 13) (v := ?v13x) rfl (by kernel_rfl) (by kernel_rfl) (by kernel_rfl) (fun _ _ _ h => h) (Or.inl ⟨by rfl, ?hy13x⟩) (by assumption) ?rest13x
        case hy13x => intro w hSw; (try dsimp only at hSw); (try simp only [List.getElem_toArray, List.getElem_cons_succ, List.getElem_cons_zero]); go_simp; (try with_reducible rfl)
        (try simp only [List.getElem_toArray, List.getElem_cons_succ, List.getElem_cons_zero, Act.put, List.setIfInBounds_toArray, List.set_cons_zero, List.set_cons_succ])
        refine wpAnyH_take (i := 14) (v := ?v14x) rfl (by kernel_rfl) (by kernel_rfl) (by kernel_rfl) (fun _ _ _ h => h) (Or.inl ⟨by rfl, ?hy14x⟩) (by assumption) ?rest14x
        case hy14x => intro w hSw; (try dsimp only at hSw); (try simp only [List.getElem_toArray, List.getElem_cons_succ, List.getElem_cons_zero]); go_simp; (try with_reducible rfl)
        (try simp only [List.getElem_toArray, List.getElem_cons_succ, List.getElem_cons_zero, Act.put, List.setIfInBounds_toArray, List.set_cons_zero, List.set_cons_succ])
        refine wpAnyH_take (i := 15) (v := ?v15x) rfl (by kernel_rfl) (by kernel_rfl) (by kernel_rfl) (fun _ _ _ h => h) (Or.inl ⟨by rfl, ?hy15x⟩) (by assumption) ?rest15x
        case hy15x => intro w hSw; (try dsimp only at hSw); (try simp only [List.getElem_toArray, List.getElem_cons_succ, List.getElem_cons_zero]); go_simp; (try with_reducible rfl)
        (try simp only [List.getElem_toArray, List.getElem_cons_succ, List.getElem_cons_zero, Act.put, List.setIfInBounds_toArray, List.set_cons_zero, List.set_cons_succ])
        refine wpAnyH_take (i := 16) (v := ?v16x) rfl (by kernel_rfl) (by kernel_rfl) (by kernel_rfl) (fun _ _ _ h => h) (Or.inl ⟨by rfl, ?hy16x⟩) (by assumption) ?rest16x
        case hy16x => intro w hSw; (try dsimp only at hSw); (try simp only [List.getElem_toArray, List.getElem_cons_succ, List.getElem_cons_zero]); go_simp; (try with_reducible rfl)
        (try simp only [List.getElem_toArray, List.getElem_cons_succ, List.getElem_cons_zero, Act.put, List.setIfInBounds_toArray, List.set_cons_zero, List.set_cons_succ])
        refine wpAnyH_take (i := 17) (v := ?v17x) rfl (by kernel_rfl) (by kernel_rfl) (by kernel_rfl) (fun _ _ _ h => h) (Or.inl ⟨by rfl, ?hy17x⟩) (by assumption) ?rest17x
        case hy17x => intro w hSw; (try dsimp only at hSw); (try simp only [List.getElem_toArray, List.getElem_cons_succ, List.getElem_cons_zero]); go_simp; (try with_reducible rfl)
        (try simp only [List.getElem_toArray, List.getElem_cons_succ, List.getElem_cons_zero, Act.put, List.setIfInBounds_toArray, List.set_cons_zero, List.set_cons_succ])
        refine wpAnyH_take (i := 18) (v := undef) rfl (by kernel_rfl) (by kernel_rfl) (by kernel_rfl) (fun _ _ _ h => h) (Or.inr ⟨by rfl, rfl⟩) (by assumption) ?_
        (try simp only [List.getElem_toArray, List.getElem_cons_succ, List.getElem_cons_zero, Act.put, List.setIfInBounds_toArray, List.set_cons_zero, List.set_cons_succ])
        refine wpAnyH_take (i := 19) (v := undef) rfl (by kernel_rfl) (by kernel_rfl) (by kernel_rfl) (fun _ _ _ h => h) (Or.inr ⟨by rfl, rfl⟩) (by assumption) ?_
        (try simp only [List.getElem_toArray, List.getElem_cons_succ, List.getElem_cons_zero, Act.put, List.setIfInBounds_toArray, List.set_cons_zero, List.set_cons_succ])
        refine wpAnyH_take (i := 20) (v := ?v20x) rfl (by kernel_rfl) (by kernel_rfl) (by kernel_rfl) (fun _ _ _ h => h) (Or.inl ⟨by rfl, ?hy20x⟩) (by assumption) ?rest20x
        case hy20x => intro w hSw; (try dsimp only at hSw); (try simp only [List.getElem_toArray, List.getElem_cons_succ, List.getElem_cons_zero]); go_simp; (try with_reducible rfl)
        (try simp only [List.getElem_toArray, List.getElem_cons_succ, List.getElem_cons_zero, Act.put, List.setIfInBounds_toArray, List.set_cons_zero, List.set_cons_succ])
        refine wpAnyH_take (i := 21) (v := ?v21x) rfl (by kernel_rfl) (by kernel_rfl) (by kernel_rfl) (fun _ _ _ h => h) (Or.inl ⟨by rfl, ?hy21x⟩) (by assumption) ?rest21x
        case hy21x => intro w hSw; (try dsimp only at hSw); (try simp only [List.getElem_toArray, List.getElem_cons_succ, List.getElem_cons_zero]); go_simp; (try with_reducible rfl)
        (try simp only [List.getElem_toArray, List.getElem_cons_succ, List.getElem_cons_zero, Act.put, List.setIfInBounds_toArray, List.set_cons_zero, List.set_cons_succ])
        refine wpAnyH_done (by kernel_rfl) ?_ _
        all_goals
          go_wp2_with fail
          go_meet
          exact ⟨rfl, js⟩
      · have e1 : ok = false := by rw [Hok.out]; exact decide_eq_false hin
        have e2 : vv = 0 := by rw [Hvv.out]; exact if_neg hin
        subst e1 e2
        clear hin Hok Hvv
        go_quiet (fail)
        all_goals
          go_wp2_with fail
          go_meet
          exact ⟨rfl, by first | exact Below.refl _ _ | exact bdw (Below.refl _ _) | exact bdn (Below.refl _ _) _⟩

    case rest =>
      obtain ⟨rfl, jc⟩ := hcut
      obtain ⟨w4, rfl⟩ : ∃ w4 : World, w4 = wc := ⟨_, rfl⟩
      have J4 := Lib.hid (bst J3.out jc (Nat.le_refl _))
      have B7' := Lib.hid (B7.out.below jc B7.out.lt)
      have B0' := Lib.hid (B0.out.below jc B0.out.lt)
      have B1' := Lib.hid (B1.out.below jc B1.out.lt)
      clear B7 B0 B1 jc p0 p1 p2 p3 p4 p5
      have B7 := B7'
      have B0 := B0'
      have B1 := B1'
      clear B7' B0' B1'
      obtain ⟨p0, p1, _, _⟩ := B0.out.two
      obtain ⟨p2, p3, _, _⟩ := B7.out.two
      obtain ⟨p4, p5, _, _⟩ := B1.out.two
      obtain ⟨sz, hsz⟩ : ∃ s, s = z.sign := ⟨_, rfl⟩
      obtain ⟨sd, hsd⟩ : ∃ s, s = (z - y).sign := ⟨_, rfl⟩
      rw [← hsz] at SX SA
      rw [← hsd] at KX KA
      clear hsz hsd
      go_wp2_with fail
      go_cut [79] (fun v W => v = .bool false ∧ Below w4.heap.size w4 W)
      case first =>
        go_region_held3 (fun W => W.cell? ⟨g7, 0, none⟩ = some (.bool g) ∧ W.cell? ⟨g7, 1, none⟩ = some (.slice Ax xs.length cx) ∧ W.cell? ⟨w.heap.size, 0, none⟩ = some (.bool g) ∧ W.cell? ⟨w.heap.size, 1, none⟩ = some (.slice A xs.length c) ∧ W.cell? ⟨w.heap.size + 1, 0, none⟩ = some (.bool g2) ∧ W.cell? ⟨w.heap.size + 1, 1, none⟩ = some (.slice A2 ys.length c2)) (go_keep) (first
          | (go_at_call 13; (with_reducible refine (NX.out _ (bst J4.out (by repeat (first | exact Below.refl _ _ | exact jo | exact jp | exact js | exact jq | exact jr | exact jt | exact ju | exact jv | exact jx | exact jy | apply bdw | (refine bdn ?_ _) | (refine bal ?_ (Nat.le_refl _) _))) (Nat.le_refl _))).mono ?_); rintro e wo ⟨zo, Ao, co, rfl, hzo, hro, hbo⟩; have jo : Below w4.heap.size w4 wo := bst (by repeat (first | exact Below.refl _ _ | exact jo | exact jp | exact js | exact jq | exact jr | exact jt | exact ju | exact jv | exact jx | exact jy | apply bdw | (refine bdn ?_ _) | (refine bal ?_ (Nat.le_refl _) _))) hbo (Nat.le_refl _); obtain ⟨x0o, y0o, u0o, v0o⟩ := (B7.out.below jo B7.out.lt).two; obtain ⟨xx0o, yy0o, uu0o, vv0o⟩ := two_al (B7.out.below jo B7.out.lt); obtain ⟨x1o, y1o, u1o, v1o⟩ := (B0.out.below jo B0.out.lt).two; obtain ⟨xx1o, yy1o, uu1o, vv1o⟩ := two_al (B0.out.below jo B0.out.lt); obtain ⟨x2o, y2o, u2o, v2o⟩ := (B1.out.below jo B1.out.lt).two; obtain ⟨xx2o, yy2o, uu2o, vv2o⟩ := two_al (B1.out.below jo B1.out.lt))
          | (go_at_call 12; (with_reducible refine (NA.out _ (bst J4.out (by repeat (first | exact Below.refl _ _ | exact jo | exact jp | exact js | exact jq | exact jr | exact jt | exact ju | exact jv | exact jx | exact jy | apply bdw | (refine bdn ?_ _) | (refine bal ?_ (Nat.le_refl _) _))) (Nat.le_refl _))).mono ?_); rintro e wp ⟨zp, Ap, cp, rfl, hzp, hrp, hbp⟩; have jp : Below w4.heap.size w4 wp := bst (by repeat (first | exact Below.refl _ _ | exact jo | exact jp | exact js | exact jq | exact jr | exact jt | exact ju | exact jv | exact jx | exact jy | apply bdw | (refine bdn ?_ _) | (refine bal ?_ (Nat.le_refl _) _))) hbp (Nat.le_refl _); obtain ⟨x0p, y0p, u0p, v0p⟩ := (B7.out.below jp B7.out.lt).two; obtain ⟨xx0p, yy0p, uu0p, vv0p⟩ := two_al (B7.out.below jp B7.out.lt); obtain ⟨x1p, y1p, u1p, v1p⟩ := (B0.out.below jp B0.out.lt).two; obtain ⟨xx1p, yy1p, uu1p, vv1p⟩ := two_al (B0.out.below jp B0.out.lt); obtain ⟨x2p, y2p, u2p, v2p⟩ := (B1.out.below jp B1.out.lt).two; obtain ⟨xx2p, yy2p, uu2p, vv2p⟩ := two_al (B1.out.below jp B1.out.lt); have jop : Below wo.heap.size wo wp := bel_pre hbp (by repeat (first | exact Below.refl _ _ | apply bdw | (refine bdn ?_ _) | (refine bal ?_ (Nat.le_refl _) _))))
          | (go_at_call 11; (with_reducible refine (GZ.out zo Ao co _ wo zp Ap cp _ wp _ hzo hro (by first | exact jop | exact bdw jop | exact bdn jop _) hzp hrp (by repeat (first | exact Below.refl _ _ | apply bdw | (refine bdn ?_ _) | (refine bal ?_ (Nat.le_refl _) _)))).mono ?_); rintro e ws ⟨rfl, hbs⟩; have js : Below w4.heap.size w4 ws := bst (by repeat (first | exact Below.refl _ _ | exact jo | exact jp | exact js | exact jq | exact jr | exact jt | exact ju | exact jv | exact jx | exact jy | apply bdw | (refine bdn ?_ _) | (refine bal ?_ (Nat.le_refl _) _))) hbs (Nat.le_refl _); obtain ⟨x0s, y0s, u0s, v0s⟩ := (B7.out.below js B7.out.lt).two; obtain ⟨xx0s, yy0s, uu0s, vv0s⟩ := two_al (B7.out.below js B7.out.lt); obtain ⟨x1s, y1s, u1s, v1s⟩ := (B0.out.below js B0.out.lt).two; obtain ⟨xx1s, yy1s, uu1s, vv1s⟩ := two_al (B0.out.below js B0.out.lt); obtain ⟨x2s, y2s, u2s, v2s⟩ := (B1.out.below js B1.out.lt).two; obtain ⟨xx2s, yy2s, uu2s, vv2s⟩ := two_al (B1.out.below js B1.out.lt))
          | (go_at_call 14; (with_reducible refine (zof_any n Hn.out.1 Hn.out.2 _).mono ?_); rintro e wq ⟨zq, Aq, cq, rfl, hzq, hrq, hbq⟩; have jq : Below w4.heap.size w4 wq := bst (by repeat (first | exact Below.refl _ _ | exact jo | exact jp | exact js | exact jq | exact jr | exact jt | exact ju | exact jv | exact jx | exact jy | apply bdw | (refine bdn ?_ _) | (refine bal ?_ (Nat.le_refl _) _))) hbq (Nat.le_refl _); obtain ⟨x0q, y0q, u0q, v0q⟩ := (B7.out.below jq B7.out.lt).two; obtain ⟨xx0q, yy0q, uu0q, vv0q⟩ := two_al (B7.out.below jq B7.out.lt); obtain ⟨x1q, y1q, u1q, v1q⟩ := (B0.out.below jq B0.out.lt).two; obtain ⟨xx1q, yy1q, uu1q, vv1q⟩ := two_al (B0.out.below jq B0.out.lt); obtain ⟨x2q, y2q, u2q, v2q⟩ := (B1.out.below jq B1.out.lt).two; obtain ⟨xx2q, yy2q, uu2q, vv2q⟩ := two_al (B1.out.below jq B1.out.lt))
          | (go_at_call 10; (with_reducible refine (lof_any n Hn.out.1 Hn.out.2 _).mono ?_); rintro e wr ⟨zr, Ar, cr, rfl, hzr, hrr, hbr⟩; have jr : Below w4.heap.size w4 wr := bst (by repeat (first | exact Below.refl _ _ | exact jo | exact jp | exact js | exact jq | exact jr | exact jt | exact ju | exact jv | exact jx | exact jy | apply bdw | (refine bdn ?_ _) | (refine bal ?_ (Nat.le_refl _) _))) hbr (Nat.le_refl _); obtain ⟨x0r, y0r, u0r, v0r⟩ := (B7.out.below jr B7.out.lt).two; obtain ⟨xx0r, yy0r, uu0r, vv0r⟩ := two_al (B7.out.below jr B7.out.lt); obtain ⟨x1r, y1r, u1r, v1r⟩ := (B0.out.below jr B0.out.lt).two; obtain ⟨xx1r, yy1r, uu1r, vv1r⟩ := two_al (B0.out.below jr B0.out.lt); obtain ⟨x2r, y2r, u2r, v2r⟩ := (B1.out.below jr B1.out.lt).two; obtain ⟨xx2r, yy2r, uu2r, vv2r⟩ := two_al (B1.out.below jr B1.out.lt); have jqr : Below wq.heap.size wq wr := bel_pre hbr (by repeat (first | exact Below.refl _ _ | apply bdw | (refine bdn ?_ _) | (refine bal ?_ (Nat.le_refl _) _))))
          | (go_at_call 11; (with_reducible refine (GN.out zq Aq cq _ wq zr Ar cr _ wr _ hzq hrq (by first | exact jqr | exact bdw jqr | exact bdn jqr _) hzr hrr (by repeat (first | exact Below.refl _ _ | apply bdw | (refine bdn ?_ _) | (refine bal ?_ (Nat.le_refl _) _)))).mono ?_); rintro e wt ⟨rfl, hbt⟩; have jt : Below w4.heap.size w4 wt := bst (by repeat (first | exact Below.refl _ _ | exact jo | exact jp | exact js | exact jq | exact jr | exact jt | exact ju | exact jv | exact jx | exact jy | apply bdw | (refine bdn ?_ _) | (refine bal ?_ (Nat.le_refl _) _))) hbt (Nat.le_refl _); obtain ⟨x0t, y0t, u0t, v0t⟩ := (B7.out.below jt B7.out.lt).two; obtain ⟨xx0t, yy0t, uu0t, vv0t⟩ := two_al (B7.out.below jt B7.out.lt); obtain ⟨x1t, y1t, u1t, v1t⟩ := (B0.out.below jt B0.out.lt).two; obtain ⟨xx1t, yy1t, uu1t, vv1t⟩ := two_al (B0.out.below jt B0.out.lt); obtain ⟨x2t, y2t, u2t, v2t⟩ := (B1.out.below jt B1.out.lt).two; obtain ⟨xx2t, yy2t, uu2t, vv2t⟩ := two_al (B1.out.below jt B1.out.lt))
          | (go_at_call 15; (with_reducible refine (SX.out _ (bst J4.out (by repeat (first | exact Below.refl _ _ | exact jo | exact jp | exact js | exact jq | exact jr | exact jt | exact ju | exact jv | exact jx | exact jy | apply bdw | (refine bdn ?_ _) | (refine bal ?_ (Nat.le_refl _) _))) (Nat.le_refl _))).mono ?_); rintro e wu ⟨rfl, hbu⟩; have ju : Below w4.heap.size w4 wu := bst (by repeat (first | exact Below.refl _ _ | exact jo | exact jp | exact js | exact jq | exact jr | exact jt | exact ju | exact jv | exact jx | exact jy | apply bdw | (refine bdn ?_ _) | (refine bal ?_ (Nat.le_refl _) _))) hbu (Nat.le_refl _); obtain ⟨x0u, y0u, u0u, v0u⟩ := (B7.out.below ju B7.out.lt).two; obtain ⟨xx0u, yy0u, uu0u, vv0u⟩ := two_al (B7.out.below ju B7.out.lt); obtain ⟨x1u, y1u, u1u, v1u⟩ := (B0.out.below ju B0.out.lt).two; obtain ⟨xx1u, yy1u, uu1u, vv1u⟩ := two_al (B0.out.below ju B0.out.lt); obtain ⟨x2u, y2u, u2u, v2u⟩ := (B1.out.below ju B1.out.lt).two; obtain ⟨xx2u, yy2u, uu2u, vv2u⟩ := two_al (B1.out.below ju B1.out.lt))
          | (go_at_call 16; (with_reducible refine (SA.out _ (bst J4.out (by repeat (first | exact Below.refl _ _ | exact jo | exact jp | exact js | exact jq | exact jr | exact jt | exact ju | exact jv | exact jx | exact jy | apply bdw | (refine bdn ?_ _) | (refine bal ?_ (Nat.le_refl _) _))) (Nat.le_refl _))).mono ?_); rintro e wv ⟨rfl, hbv⟩; have jv : Below w4.heap.size w4 wv := bst (by repeat (first | exact Below.refl _ _ | exact jo | exact jp | exact js | exact jq | exact jr | exact jt | exact ju | exact jv | exact jx | exact jy | apply bdw | (refine bdn ?_ _) | (refine bal ?_ (Nat.le_refl _) _))) hbv (Nat.le_refl _); obtain ⟨x0v, y0v, u0v, v0v⟩ := (B7.out.below jv B7.out.lt).two; obtain ⟨xx0v, yy0v, uu0v, vv0v⟩ := two_al (B7.out.below jv B7.out.lt); obtain ⟨x1v, y1v, u1v, v1v⟩ := (B0.out.below jv B0.out.lt).two; obtain ⟨xx1v, yy1v, uu1v, vv1v⟩ := two_al (B0.out.below jv B0.out.lt); obtain ⟨x2v, y2v, u2v, v2v⟩ := (B1.out.below jv B1.out.lt).two; obtain ⟨xx2v, yy2v, uu2v, vv2v⟩ := two_al (B1.out.below jv B1.out.lt))
          | (go_at_call 17; (with_reducible refine (KX.out _ (bst J4.out (by repeat (first | exact Below.refl _ _ | exact jo | exact jp | exact js | exact jq | exact jr | exact jt | exact ju | exact jv | exact jx | exact jy | apply bdw | (refine bdn ?_ _) | (refine bal ?_ (Nat.le_refl _) _))) (Nat.le_refl _))).mono ?_); rintro e wx ⟨rfl, hbx⟩; have jx : Below w4.heap.size w4 wx := bst (by repeat (first | exact Below.refl _ _ | exact jo | exact jp | exact js | exact jq | exact jr | exact jt | exact ju | exact jv | exact jx | exact jy | apply bdw | (refine bdn ?_ _) | (refine bal ?_ (Nat.le_refl _) _))) hbx (Nat.le_refl _); obtain ⟨x0x, y0x, u0x, v0x⟩ := (B7.out.below jx B7.out.lt).two; obtain ⟨xx0x, yy0x, uu0x, vv0x⟩ := two_al (B7.out.below jx B7.out.lt); obtain ⟨x1x, y1x, u1x, v1x⟩ := (B0.out.below jx B0.out.lt).two; obtain ⟨xx1x, yy1x, uu1x, vv1x⟩ := two_al (B0.out.below jx B0.out.lt); obtain ⟨x2x, y2x, u2x, v2x⟩ := (B1.out.below jx B1.out.lt).two; obtain ⟨xx2x, yy2x, uu2x, vv2x⟩ := two_al (B1.out.below jx B1.out.lt))
          | (go_at_call 9; (with_reducible refine (KA.out _ (bst J4.out (by repeat (first | exact Below.refl _ _ | exact jo | exact jp | exact js | exact jq | exact jr | exact jt | exact ju | exact jv | exact jx | exact jy | apply bdw | (refine bdn ?_ _) | (refine bal ?_ (Nat.le_refl _) _))) (Nat.le_refl _))).mono ?_); rintro e wy ⟨rfl, hby⟩; have jy : Below w4.heap.size w4 wy := bst (by repeat (first | exact Below.refl _ _ | exact jo | exact jp | exact js | exact jq | exact jr | exact jt | exact ju | exact jv | exact jx | exact jy | apply bdw | (refine bdn ?_ _) | (refine bal ?_ (Nat.le_refl _) _))) hby (Nat.le_refl _); obtain ⟨x0y, y0y, u0y, v0y⟩ := (B7.out.below jy B7.out.lt).two; obtain ⟨xx0y, yy0y, uu0y, vv0y⟩ := two_al (B7.out.below jy B7.out.lt); obtain ⟨x1y, y1y, u1y, v1y⟩ := (B0.out.below jy B0.out.lt).two; obtain ⟨xx1y, yy1y, uu1y, vv1y⟩ := two_al (B0.out.below jy B0.out.lt); obtain ⟨x2y, y2y, u2y, v2y⟩ := (B1.out.below jy B1.out.lt).two; obtain ⟨xx2y, yy2y, uu2y, vv2y⟩ := two_al (B1.out.below jy B1.out.lt)))
        all_goals
          go_wp2_with fail
          go_meet
          exact ⟨rfl, jy⟩

      case rest =>
        obtain ⟨rfl, jc⟩ := hcut
        obtain ⟨w6, rfl⟩ : ∃ w6 : World, w6 = wc := ⟨_, rfl⟩
        have J6 := Lib.hid (bst J4.out jc (Nat.le_refl _))
        have B7' := Lib.hid (B7.out.below jc B7.out.lt)
        have B0' := Lib.hid (B0.out.below jc B0.out.lt)
        have B1' := Lib.hid (B1.out.below jc B1.out.lt)
        clear B7 B0 B1 jc p0 p1 p2 p3 p4 p5
        have B7 := B7'
        have B0 := B0'
        have B1 := B1'
        clear B7' B0' B1'
        obtain ⟨p0, p1, _, _⟩ := B0.out.two
        obtain ⟨p2, p3, _, _⟩ := B7.out.two
        obtain ⟨p4, p5, _, _⟩ := B1.out.two
        clear NX NA SX SA KX KA GZ GN
        go_wp2_with fail
        go_region_held3 (fun W => W.cell? ⟨g7, 0, none⟩ = some (.bool g) ∧ W.cell? ⟨g7, 1, none⟩ = some (.slice Ax xs.length cx) ∧ W.cell? ⟨w.heap.size, 0, none⟩ = some (.bool g) ∧ W.cell? ⟨w.heap.size, 1, none⟩ = some (.slice A xs.length c)) (go_keep) (first
          | (go_at_call 18; (with_reducible refine (GX.out _ (bst J6.out (by repeat (first | exact Below.refl _ _ | exact jo | exact jp | exact js | exact jq | exact jr | exact jt | exact ju | exact jv | apply bdw | (refine bdn ?_ _) | (refine bal ?_ (Nat.le_refl _) _))) (Nat.le_refl _))).mono ?_); rintro e wo ⟨zo, Ao, co, rfl, hzo, hro, hbo⟩; have jo : Below w6.heap.size w6 wo := bst (by repeat (first | exact Below.refl _ _ | exact jo | exact jp | exact js | exact jq | exact jr | exact jt | exact ju | exact jv | apply bdw | (refine bdn ?_ _) | (refine bal ?_ (Nat.le_refl _) _))) hbo (Nat.le_refl _); obtain ⟨x0o, y0o, u0o, v0o⟩ := (B7.out.below jo B7.out.lt).two; obtain ⟨xx0o, yy0o, uu0o, vv0o⟩ := two_al (B7.out.below jo B7.out.lt); obtain ⟨x1o, y1o, u1o, v1o⟩ := (B0.out.below jo B0.out.lt).two; obtain ⟨xx1o, yy1o, uu1o, vv1o⟩ := two_al (B0.out.below jo B0.out.lt))
          | (go_at_call 19; (with_reducible refine (GA.out _ (bst J6.out (by repeat (first | exact Below.refl _ _ | exact jo | exact jp | exact js | exact jq | exact jr | exact jt | exact ju | exact jv | apply bdw | (refine bdn ?_ _) | (refine bal ?_ (Nat.le_refl _) _))) (Nat.le_refl _))).mono ?_); rintro e wp ⟨zp, Ap, cp, rfl, hzp, hrp, hbp⟩; have jp : Below w6.heap.size w6 wp := bst (by repeat (first | exact Below.refl _ _ | exact jo | exact jp | exact js | exact jq | exact jr | exact jt | exact ju | exact jv | apply bdw | (refine bdn ?_ _) | (refine bal ?_ (Nat.le_refl _) _))) hbp (Nat.le_refl _); obtain ⟨x0p, y0p, u0p, v0p⟩ := (B7.out.below jp B7.out.lt).two; obtain ⟨xx0p, yy0p, uu0p, vv0p⟩ := two_al (B7.out.below jp B7.out.lt); obtain ⟨x1p, y1p, u1p, v1p⟩ := (B0.out.below jp B0.out.lt).two; obtain ⟨xx1p, yy1p, uu1p, vv1p⟩ := two_al (B0.out.below jp B0.out.lt); have jop : Below wo.heap.size wo wp := bel_pre hbp (by repeat (first | exact Below.refl _ _ | apply bdw | (refine bdn ?_ _) | (refine bal ?_ (Nat.le_refl _) _))))
          | (go_at_call 11; (with_reducible refine (GG.out zo Ao co _ wo zp Ap cp _ wp _ hzo hro (by first | exact jop | exact bdw jop | exact bdn jop _) hzp hrp (by repeat (first | exact Below.refl _ _ | apply bdw | (refine bdn ?_ _) | (refine bal ?_ (Nat.le_refl _) _)))).mono ?_); rintro e ws ⟨rfl, hbs⟩; have js : Below w6.heap.size w6 ws := bst (by repeat (first | exact Below.refl _ _ | exact jo | exact jp | exact js | exact jq | exact jr | exact jt | exact ju | exact jv | apply bdw | (refine bdn ?_ _) | (refine bal ?_ (Nat.le_refl _) _))) hbs (Nat.le_refl _); obtain ⟨x0s, y0s, u0s, v0s⟩ := (B7.out.below js B7.out.lt).two; obtain ⟨xx0s, yy0s, uu0s, vv0s⟩ := two_al (B7.out.below js B7.out.lt); obtain ⟨x1s, y1s, u1s, v1s⟩ := (B0.out.below js B0.out.lt).two; obtain ⟨xx1s, yy1s, uu1s, vv1s⟩ := two_al (B0.out.below js B0.out.lt))
          | (go_at_call 20; (with_reducible refine (BX.out _ (bst J6.out (by repeat (first | exact Below.refl _ _ | exact jo | exact jp | exact js | exact jq | exact jr | exact jt | exact ju | exact jv | apply bdw | (refine bdn ?_ _) | (refine bal ?_ (Nat.le_refl _) _))) (Nat.le_refl _))).mono ?_); rintro e wq ⟨zq, Aq, cq, rfl, hzq, hrq, hbq⟩; have jq : Below w6.heap.size w6 wq := bst (by repeat (first | exact Below.refl _ _ | exact jo | exact jp | exact js | exact jq | exact jr | exact jt | exact ju | exact jv | apply bdw | (refine bdn ?_ _) | (refine bal ?_ (Nat.le_refl _) _))) hbq (Nat.le_refl _); obtain ⟨x0q, y0q, u0q, v0q⟩ := (B7.out.below jq B7.out.lt).two; obtain ⟨xx0q, yy0q, uu0q, vv0q⟩ := two_al (B7.out.below jq B7.out.lt); obtain ⟨x1q, y1q, u1q, v1q⟩ := (B0.out.below jq B0.out.lt).two; obtain ⟨xx1q, yy1q, uu1q, vv1q⟩ := two_al (B0.out.below jq B0.out.lt))
          | (go_at_call 21; (with_reducible refine (BA.out _ (bst J6.out (by repeat (first | exact Below.refl _ _ | exact jo | exact jp | exact js | exact jq | exact jr | exact jt | exact ju | exact jv | apply bdw | (refine bdn ?_ _) | (refine bal ?_ (Nat.le_refl _) _))) (Nat.le_refl _))).mono ?_); rintro e wr ⟨zr, Ar, cr, rfl, hzr, hrr, hbr⟩; have jr : Below w6.heap.size w6 wr := bst (by repeat (first | exact Below.refl _ _ | exact jo | exact jp | exact js | exact jq | exact jr | exact jt | exact ju | exact jv | apply bdw | (refine bdn ?_ _) | (refine bal ?_ (Nat.le_refl _) _))) hbr (Nat.le_refl _); obtain ⟨x0r, y0r, u0r, v0r⟩ := (B7.out.below jr B7.out.lt).two; obtain ⟨xx0r, yy0r, uu0r, vv0r⟩ := two_al (B7.out.below jr B7.out.lt); obtain ⟨x1r, y1r, u1r, v1r⟩ := (B0.out.below jr B0.out.lt).two; obtain ⟨xx1r, yy1r, uu1r, vv1r⟩ := two_al (B0.out.below jr B0.out.lt); have jqr : Below wq.heap.size wq wr := bel_pre hbr (by repeat (first | exact Below.refl _ _ | apply bdw | (refine bdn ?_ _) | (refine bal ?_ (Nat.le_refl _) _))))
          | (go_at_call 11; (with_reducible refine (GB.out zq Aq cq _ wq zr Ar cr _ wr _ hzq hrq (by first | exact jqr | exact bdw jqr | exact bdn jqr _) hzr hrr (by repeat (first | exact Below.refl _ _ | apply bdw | (refine bdn ?_ _) | (refine bal ?_ (Nat.le_refl _) _)))).mono ?_); rintro e wt ⟨rfl, hbt⟩; have jt : Below w6.heap.size w6 wt := bst (by repeat (first | exact Below.refl _ _ | exact jo | exact jp | exact js | exact jq | exact jr | exact jt | exact ju | exact jv | apply bdw | (refine bdn ?_ _) | (refine bal ?_ (Nat.le_refl _) _))) hbt (Nat.le_refl _); obtain ⟨x0t, y0t, u0t, v0t⟩ := (B7.out.below jt B7.out.lt).two; obtain ⟨xx0t, yy0t, uu0t, vv0t⟩ := two_al (B7.out.below jt B7.out.lt); obtain ⟨x1t, y1t, u1t, v1t⟩ := (B0.out.below jt B0.out.lt).two; obtain ⟨xx1t, yy1t, uu1t, vv1t⟩ := two_al (B0.out.below jt B0.out.lt))
          | (go_at_call 11; (with_reducible refine (XA.out _ (bst J6.out (by repeat (first | exact Below.refl _ _ | exact jo | exact jp | exact js | exact jq | exact jr | exact jt | exact ju | exact jv | apply bdw | (refine bdn ?_ _) | (refine bal ?_ (Nat.le_refl _) _))) (Nat.le_refl _))).mono ?_); rintro e wu ⟨rfl, hbu⟩; have ju : Below w6.heap.size w6 wu := bst (by repeat (first | exact Below.refl _ _ | exact jo | exact jp | exact js | exact jq | exact jr | exact jt | exact ju | exact jv | apply bdw | (refine bdn ?_ _) | (refine bal ?_ (Nat.le_refl _) _))) hbu (Nat.le_refl _); obtain ⟨x0u, y0u, u0u, v0u⟩ := (B7.out.below ju B7.out.lt).two; obtain ⟨xx0u, yy0u, uu0u, vv0u⟩ := two_al (B7.out.below ju B7.out.lt); obtain ⟨x1u, y1u, u1u, v1u⟩ := (B0.out.below ju B0.out.lt).two; obtain ⟨xx1u, yy1u, uu1u, vv1u⟩ := two_al (B0.out.below ju B0.out.lt))
          | (go_at_call 22; (with_reducible refine (zlives_any _).mono ?_); rintro e wv ⟨rfl, hbv⟩; have jv : Below w6.heap.size w6 wv := bst (by repeat (first | exact Below.refl _ _ | exact jo | exact jp | exact js | exact jq | exact jr | exact jt | exact ju | exact jv | apply bdw | (refine bdn ?_ _) | (refine bal ?_ (Nat.le_refl _) _))) hbv (Nat.le_refl _); obtain ⟨x0v, y0v, u0v, v0v⟩ := (B7.out.below jv B7.out.lt).two; obtain ⟨xx0v, yy0v, uu0v, vv0v⟩ := two_al (B7.out.below jv B7.out.lt); obtain ⟨x1v, y1v, u1v, v1v⟩ := (B0.out.below jv B0.out.lt).two; obtain ⟨xx1v, yy1v, uu1v, vv1v⟩ := two_al (B0.out.below jv B0.out.lt)))
        all_goals
          go_wp2_with fail
          go_ret
          exact ⟨rfl, bst kc (bst J6.out jv (Nat.le_refl _)) (Nat.le_refl _)⟩
end
end Go.Proofs.YtanlejlmckdeiaaGreat
