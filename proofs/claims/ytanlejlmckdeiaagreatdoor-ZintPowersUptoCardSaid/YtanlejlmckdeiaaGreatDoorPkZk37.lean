/- The contract of the reference's Lcm over a row of integers that are held. Conditions: at most 2^20 limbs in all, at most 2^20 numbers. -/
import Derived.Test.YtanlejlmckdeiaaGreatDoorPkZk32
import Derived.Test.YtanlejlmckdeiaaGreatDoorPkZk36
import Derived.Test.YtanlejlmckdeiaaGreatDoorPkZk34
import Derived.Deep.DeepCutAuto
namespace Go.Proofs.YtanlejlmckdeiaaGreatDoor
open Go.RowKit

theorem sign_zero (x : Int) : (x.sign == 0) = decide (x = 0) := by
  by_cases h : x = 0
  · subst h; rfl
  · rw [decide_eq_false h]
    exact beq_eq_false_iff_ne.2 (fun e => h (Int.sign_eq_zero_iff_zero.1 e))
set_option maxHeartbeats 12800000 in
theorem rzlcm_any {w : World} {N : Nat} {A : Option Addr} {c : Nat} (l : List ZE1) (h : ZR w N A l) (hN : N ≤ 1048576) (hlen : l.length ≤ 1048576) :
    Calls Tryz.prog 11 #[.slice A l.length c] w fun e w' => ZOut w w' (lcmTo l l.length : Nat) e := by
  have HL : Hid (∀ k, k ≤ l.length → lcmTo l k < 4294967296 ^ (N + 1)) := fun k hk => h.lcm_lt k hk
  have H := Lib.hid h.zl
  have b2 := blk_pair2 w (.bool false) (.slice none 0 0) (.bool false) (.slice none 0 0)
  have k0 := bel_two w (.cells #[.bool false, .slice none 0 0] 28) (.cells #[.bool false, .slice none 0 0] 28)
  clear h
  go_enter Tryz.func11, Tryz.ntmps11
  go_wp2_with fail
  have k9 := bel_one w (.cells #[.bool false, .slice none 0 0] 28)
  have b9 := blk_one w (.bool false) (.slice none 0 0)
  obtain ⟨w0, hw0⟩ : ∃ v, v = w.alloc (.cells #[.bool false, .slice none 0 0] 28) := ⟨_, rfl⟩
  rw [← hw0] at k9 b9 ⊢
  clear hw0 b2 k0
  refine (rzof_any 1 (by decide) (by decide) _).mono ?_
  rintro e w9 ⟨zi, Ai, ci, rfl, hzi, hri, hb0⟩
  have hg3 : w.heap.size < w9.heap.size := Nat.lt_of_lt_of_le b9.lt hb0.size
  have k8 := bst k9 hb0 (Nat.le_refl _)
  have b2 := (b9.below hb0 b9.lt).heapAlloc (.cells #[.bool (isNeg 1), .slice Ai zi.length ci] 28)
  have b3 := blk_one w9 (.bool (isNeg 1)) (.slice Ai zi.length ci)
  have k0 := bal k8 (Nat.le_refl _) (.cells #[.bool (isNeg 1), .slice Ai zi.length ci] 28)
  replace hri := (hri.mono k9.size).below (bel_one w9 (.cells #[.bool (isNeg 1), .slice Ai zi.length ci] 28)) (Nat.le_refl _)
  go_upto_region 2 with (fail)
  obtain ⟨w1, hw1⟩ : ∃ v, v = w9.alloc (.cells #[.bool (isNeg 1), .slice Ai zi.length ci] 28) := ⟨_, rfl⟩
  rw [← hw1] at b2 b3 k0 hri ⊢
  obtain ⟨g3, hg9⟩ : ∃ g, g = w9.heap.size := ⟨_, rfl⟩
  rw [← hg9] at hg3 b3 ⊢
  clear hw1 hg9 k8 k9 b9 hb0
  go_wp2_with fail
  go_loopw [5, 6, 7, 11] (fun _ _ _ iv wr => ∃ (k : Nat) (zn : List Nat) (An : Option Addr) (cn : Nat), k ≤ l.length ∧ iv = .int .i64 (k : Int) ∧ Blk wr g3 28 [.bool (isNeg (lcmTo l k : Nat)), .slice An zn.length cn] ∧ Num 4294967296 zn (lcmTo l k : Int).natAbs ∧ Res wr w.heap.size 61 An cn (u32s zn) ∧ Blk wr w.heap.size 28 [.bool false, .slice none 0 0] ∧ Below w.heap.size w wr) (fun _ _ _ iv _ => l.length - (intOf iv).toNat)
  case atStart => exact ⟨0, zi, Ai, ci, Nat.zero_le _, rfl, b3, hzi, hri, b2, k0⟩
  case round =>
    obtain ⟨k, zn, An, cn, hk, rfl, b3r, hn, hr, b2r, hbel⟩ := hrel
    clear b2 b3 k0 hzi hri
    by_cases hlt : k < l.length
    · obtain ⟨b, off, rfl, hbw, h0, h1, hz⟩ := H.out k hlt
      have hx0 := (hbel.cell (p := ⟨b, off + k * 2, none⟩) hbw).trans h0
      have hx1 := (hbel.cell (p := ⟨b, off + k * 2 + 1, none⟩) hbw).trans h1
      have hz9 := hz.next hbel
      obtain ⟨m, hm⟩ : ∃ m, m = lcmTo l (k + 1) := ⟨_, rfl⟩
      obtain ⟨n, hn9⟩ : ∃ n, n = lcmTo l k := ⟨_, rfl⟩
      obtain ⟨x, hx⟩ : ∃ x, x = l[k].z := ⟨_, rfl⟩
      have hst := lcmTo_step hlt
      have hnl : n < 4294967296 ^ (N + 1) := by rw [hn9]; exact HL.out _ (by omega)
      have hlz : x = 0 → lcmTo l l.length = 0 := fun h0 => lcmTo_zero (k := k + 1) (by rw [hst, ← hx, h0]; simp)
      rw [← hm, ← hn9, ← hx] at hst
      rw [← hn9] at hn b3r
      rw [← hx] at hz9
      obtain ⟨eg, heg⟩ : ∃ v, v = l[k].g := ⟨_, rfl⟩
      obtain ⟨eA, heA⟩ : ∃ v, v = l[k].A := ⟨_, rfl⟩
      obtain ⟨exs, hexs⟩ : ∃ v, v = l[k].xs := ⟨_, rfl⟩
      obtain ⟨ec, hec⟩ : ∃ v, v = l[k].c := ⟨_, rfl⟩
      rw [← heg] at hx0
      rw [← heA, ← hexs, ← hec] at hx1
      rw [← heg, ← heA, ← hexs, ← hec] at hz9
      obtain ⟨sg, hsg⟩ : ∃ v, v = x.sign := ⟨_, rfl⟩
      have SG : Hid (∀ W (_ : Below wr.heap.size wr W), Calls Tryz.prog 46 #[.agg #[.bool eg, .slice eA exs.length ec]] W fun e w' => e = .returned (.int .i64 sg) ∧ Below W.heap.size W w') := fun W hW => by rw [hsg]; exact (hz9.next hW).rsign (by omega)
      have hsz : (sg == 0) = decide (x = 0) := by rw [hsg]; exact sign_zero x
      have Hm := Lib.hid hm
      have Hst := Lib.hid hst
      have Hn := Lib.hid hn
      have HR := Lib.hid hr
      have HZ9 := Lib.hid hz9
      have HB2 := Lib.hid b2r
      have HB3 := Lib.hid b3r
      have KB := Lib.hid hbel
      have s0 := b3r.lt
      clear hn hr b2r b3r hbel h0 h1 hz hz9 hm hn9 hx hst heg heA hexs hec hsg
      go_upto_region 5 with (fail)
      obtain ⟨v1, hv1⟩ : ∃ v, v = wr.alloc (.cells #[.bool eg, .slice eA exs.length ec] 28) := ⟨_, rfl⟩
      rw [← hv1]
      have b5 : Blk v1 wr.heap.size 28 [.bool eg, .slice eA exs.length ec] := by rw [hv1]; exact blk_one _ _ _
      have j1 : Below wr.heap.size wr v1 := by rw [hv1]; exact bel_one _ _
      obtain ⟨g5, hg5⟩ : ∃ g, g = wr.heap.size := ⟨_, rfl⟩
      rw [← hg5] at b5 ⊢
      obtain ⟨p0, p1, _, _⟩ := b5.two
      clear hv1 hg5 hx0 hx1
      by_cases hx0 : x = 0
      · rw [decide_eq_true hx0] at hsz
        have e1 := hlz hx0
        clear hlz hx0
        go_wp2_with fail
        refine (SG.out _ j1).mono ?_
        rintro e w2 ⟨rfl, hb2⟩
        have j2 := bst j1 hb2 (Nat.le_refl _)
        have bm := HB2.out.below j2 HB2.out.lt
        obtain ⟨q0, q1, q2, q3⟩ := bm.two
        clear p0 p1 SG
        go_wp2_with fail
        rw [e1]
        exact zretT (z := 0) (zs := []) (bst KB.out j2 (Nat.le_refl _)) bm (Nat.le_refl _) (Num.zero_ _) Res.none_ rfl rfl rfl rfl
      · rw [decide_eq_false hx0] at hsz
        have HX0 : 0 < x.natAbs := by omega
        obtain ⟨ax, hax⟩ : ∃ v, v = x.natAbs := ⟨_, rfl⟩
        obtain ⟨d, hd⟩ : ∃ d, d = Nat.gcd n ax := ⟨_, rfl⟩
        obtain ⟨ov, hov⟩ : ∃ v, v = ax / d := ⟨_, rfl⟩
        have hXl := HZ9.out.lt
        rw [← hax] at HX0 hXl
        have hd0 : 0 < d := by rw [hd]; exact Nat.gcd_pos_of_pos_right _ HX0
        have hdl : d < 4294967296 ^ N := by rw [hd]; exact Nat.lt_of_le_of_lt (Nat.gcd_le_right _ HX0) hXl
        have hovl : ov < 4294967296 ^ N := by rw [hov]; exact Nat.lt_of_le_of_lt (Nat.div_le_self _ _) hXl
        have hmv : n * ov = m := by rw [hov, hd, Hst.out, hax]
        have hdx : d ∣ ax := by rw [hd]; exact Nat.gcd_dvd_right _ _
        have AB : Hid (∀ W (_ : Below wr.heap.size wr W), Calls Tryz.prog 48 #[.agg #[.bool eg, .slice eA exs.length ec]] W fun e w' => ZOut W w' (ax : Nat) e) := fun W hW => by rw [hax]; exact (HZ9.out.next hW).rabs (by omega)
        have GC : Hid (∀ W (_ : Below wr.heap.size wr W), Calls Tryz.prog 40 #[.agg #[.bool (isNeg (n : Nat)), .slice An zn.length cn], .agg #[.bool eg, .slice eA exs.length ec]] W fun e w' => ZOut W w' (d : Nat) e) := fun W hW => by
          have := Zh.rgcd ((Zh.of (K := N + 1) (z := (n : Nat)) Hn.out HR.out (by rw [Int.natAbs_natCast]; exact hnl)).next hW) (HZ9.out.next hW) (by omega) (by omega)
          rw [show (Int.gcd (n : Int) x : Nat) = d from by rw [hd, hax]; rfl] at this
          exact this
        have EX : Hid (∀ (za zg : List Nat) (Aa Ag : Option Addr) (ca cg Ba Bg : Nat) (wa wg W : World), Num 4294967296 za (ax : Int).natAbs → Res wa Ba 61 Aa ca (u32s za) → Below wa.heap.size wa W → Num 4294967296 zg (d : Int).natAbs → Res wg Bg 61 Ag cg (u32s zg) → Below wg.heap.size wg W → Calls Tryz.prog 47 #[.agg #[.bool (isNeg (ax : Nat)), .slice Aa za.length ca], .agg #[.bool (isNeg (d : Nat)), .slice Ag zg.length cg]] W fun e w' => ZB W w' (ov : Nat) true e) := fun za zg Aa Ag ca cg Ba Bg wa wg W n1 r1 h1 n2 r2 h2 => by
          have := Zh.rexact_yes ((Zh.of (K := N) (z := (ax : Nat)) n1 r1 (by rw [Int.natAbs_natCast]; exact hXl)).next h1) ((Zh.of (K := N) (z := (d : Nat)) n2 r2 (by rw [Int.natAbs_natCast]; exact hdl)).next h2) (by omega) (by omega) (by rw [← Int.ofNat_tmod, Nat.mod_eq_zero_of_dvd hdx]; rfl)
          rw [← Int.ofNat_tdiv, ← hov] at this
          exact this
        have MU : Hid (∀ (zo : List Nat) (Ao : Option Addr) (co Bo : Nat) (wo W : World), Num 4294967296 zo (ov : Int).natAbs → Res wo Bo 61 Ao co (u32s zo) → Below wo.heap.size wo W → Below wr.heap.size wr W → Calls Tryz.prog 49 #[.agg #[.bool (isNeg (n : Nat)), .slice An zn.length cn], .agg #[.bool (isNeg (ov : Nat)), .slice Ao zo.length co]] W fun e w' => ZOut W w' (m : Nat) e) := fun zo Ao co Bo wo W n1 r1 h1 hW => by
          have := Zh.rmul ((Zh.of (K := N + 1) (z := (n : Nat)) Hn.out HR.out (by rw [Int.natAbs_natCast]; exact hnl)).next hW) ((Zh.of (K := N) (z := (ov : Nat)) n1 r1 (by rw [Int.natAbs_natCast]; exact hovl)).next h1) (by omega)
          rw [show (n : Int) * (ov : Int) = (m : Int) from by rw [← hmv]; simp] at this
          exact this
        clear hlz hx0 hnl HX0 hax hd hov hXl hd0 hdl hovl hmv hdx
        go_wp2_with fail
        refine (SG.out _ j1).mono ?_
        rintro e w2 ⟨rfl, hb2⟩
        have j2 := bst j1 hb2 (Nat.le_refl _)
        replace b5 := b5.below hb2 b5.lt
        clear p0 p1
        obtain ⟨p0, p1, _, _⟩ := b5.two
        obtain ⟨r0, r1, _, _⟩ := (HB3.out.below j2 s0).two
        have HB5 := Lib.hid b5
        clear SG hb2 b5
        obtain ⟨BX, BN⟩ : Hid (Blk w2 g5 28 [.bool eg, .slice eA exs.length ec]) ∧ Hid (Blk w2 g3 28 [.bool (isNeg (n : Nat)), .slice An zn.length cn]) := ⟨HB5, Lib.hid (HB3.out.below j2 s0)⟩
        have low0 : g5 < w2.heap.size := BX.out.lt
        have low1 : g3 < w2.heap.size := BN.out.lt
        have n1 : g5 ≠ w2.heap.size := by omega
        have n2 : g3 ≠ w2.heap.size := by omega
        have n5 := Ne.symm n1
        have n6 := Ne.symm n2
        clear HB5
        go_upto_region 7 with (fail)
        go_cut [6, 7] (fun v6 _ W => ∃ g6 Ay cy zy, v6 = .pointer (some ⟨g6, 0, none⟩) ∧ Blk W g6 28 [.bool (isNeg (ov : Nat)), .slice Ay zy.length cy] ∧ Num 4294967296 zy (ov : Int).natAbs ∧ Res W w2.heap.size 61 Ay cy (u32s zy) ∧ w2.heap.size ≤ g6 ∧ Below w2.heap.size w2 W)
        case first =>
          go_region_held3 (fun W => W.cell? ⟨g5, 0, none⟩ = some (.bool eg) ∧ W.cell? ⟨g5, 1, none⟩ = some (.slice eA exs.length ec) ∧ W.cell? ⟨g3, 0, none⟩ = some (.bool (isNeg (n : Nat))) ∧ W.cell? ⟨g3, 1, none⟩ = some (.slice An zn.length cn)) (go_keep) (first
            | (go_at_call 48; (with_reducible refine (AB.out _ (bst j2 (by repeat (first | exact Below.refl _ _ | exact ja | exact jg | exact jy | apply bdw | (refine bdn ?_ _) | (refine bal ?_ (Nat.le_refl _) _))) (Nat.le_refl _))).mono ?_); rintro e wa ⟨za, Aa, ca, rfl, hza, hra, hba⟩; have ja : Below w2.heap.size w2 wa := bst (by repeat (first | exact Below.refl _ _ | exact ja | exact jg | exact jy | apply bdw | (refine bdn ?_ _) | (refine bal ?_ (Nat.le_refl _) _))) hba (Nat.le_refl _); obtain ⟨x0a, y0a, u0a, v0a⟩ := (BX.out.below ja BX.out.lt).two; obtain ⟨xx0a, yy0a, uu0a, vv0a⟩ := two_al (BX.out.below ja BX.out.lt); obtain ⟨x1a, y1a, u1a, v1a⟩ := (BN.out.below ja BN.out.lt).two; obtain ⟨xx1a, yy1a, uu1a, vv1a⟩ := two_al (BN.out.below ja BN.out.lt); have m0a : g5 < wa.heap.size := Nat.lt_of_lt_of_le low0 ja.size; have ma0a := Nat.ne_of_lt m0a; have mb0a := Nat.ne_of_gt m0a; have mc0a := Nat.ne_of_lt (Nat.lt_succ_of_lt m0a); have md0a := Nat.ne_of_gt (Nat.lt_succ_of_lt m0a); have m1a : g3 < wa.heap.size := Nat.lt_of_lt_of_le low1 ja.size; have ma1a := Nat.ne_of_lt m1a; have mb1a := Nat.ne_of_gt m1a; have mc1a := Nat.ne_of_lt (Nat.lt_succ_of_lt m1a); have md1a := Nat.ne_of_gt (Nat.lt_succ_of_lt m1a); (first | (have bna0 := ((blk_one w2 (.bool false) (.slice none 0 0))).below hba (by simp)) | (have bna0 := ((blk_one w2 (.bool false) (.slice none 0 0)).drew).below hba (by simp)) | (have bna0 := ((blk_one w2 (.bool false) (.slice none 0 0)).drewN _).below hba (by simp)) | skip); (try (have q9 := bna0.two; obtain ⟨a0bna0, a1bna0, a2bna0, a3bna0⟩ := q9)); (try (have q9 := two_al bna0; obtain ⟨c0bna0, c1bna0, c2bna0, c3bna0⟩ := q9)); (try have d0bna0 := Nat.ne_of_lt bna0.lt); (try have d1bna0 := Nat.ne_of_gt bna0.lt); (try have d2bna0 := Nat.ne_of_lt (Nat.lt_succ_of_lt bna0.lt)); (try have d3bna0 := Nat.ne_of_gt (Nat.lt_succ_of_lt bna0.lt)); (try (have q9 := two_al2 bna0; obtain ⟨e0bna0, e1bna0, e2bna0, e3bna0⟩ := q9)))
            | (go_at_call 40; (with_reducible refine (GC.out _ (bst j2 (by repeat (first | exact Below.refl _ _ | exact ja | exact jg | exact jy | apply bdw | (refine bdn ?_ _) | (refine bal ?_ (Nat.le_refl _) _))) (Nat.le_refl _))).mono ?_); rintro e wg ⟨zg, Ag, cg, rfl, hzg, hrg, hbg⟩; have jg : Below w2.heap.size w2 wg := bst (by repeat (first | exact Below.refl _ _ | exact ja | exact jg | exact jy | apply bdw | (refine bdn ?_ _) | (refine bal ?_ (Nat.le_refl _) _))) hbg (Nat.le_refl _); obtain ⟨x0g, y0g, u0g, v0g⟩ := (BX.out.below jg BX.out.lt).two; obtain ⟨xx0g, yy0g, uu0g, vv0g⟩ := two_al (BX.out.below jg BX.out.lt); obtain ⟨x1g, y1g, u1g, v1g⟩ := (BN.out.below jg BN.out.lt).two; obtain ⟨xx1g, yy1g, uu1g, vv1g⟩ := two_al (BN.out.below jg BN.out.lt); have m0g : g5 < wg.heap.size := Nat.lt_of_lt_of_le low0 jg.size; have ma0g := Nat.ne_of_lt m0g; have mb0g := Nat.ne_of_gt m0g; have mc0g := Nat.ne_of_lt (Nat.lt_succ_of_lt m0g); have md0g := Nat.ne_of_gt (Nat.lt_succ_of_lt m0g); have m1g : g3 < wg.heap.size := Nat.lt_of_lt_of_le low1 jg.size; have ma1g := Nat.ne_of_lt m1g; have mb1g := Nat.ne_of_gt m1g; have mc1g := Nat.ne_of_lt (Nat.lt_succ_of_lt m1g); have md1g := Nat.ne_of_gt (Nat.lt_succ_of_lt m1g); (first | (have bng0 := ((blk_one wa (.bool false) (.slice none 0 0))).below hbg (by simp)) | (have bng0 := ((blk_one wa (.bool false) (.slice none 0 0)).drew).below hbg (by simp)) | (have bng0 := ((blk_one wa (.bool false) (.slice none 0 0)).drewN _).below hbg (by simp)) | skip); (try have bna0g := bna0.below (bel_pre hbg (by repeat (first | exact Below.refl _ _ | exact hba | exact hbg | exact hby | apply bdw | (refine bdn ?_ _) | (refine bal ?_ (Nat.le_refl _) _)))) bna0.lt); (try (have q9 := bna0g.two; obtain ⟨a0bna0g, a1bna0g, a2bna0g, a3bna0g⟩ := q9)); (try (have q9 := two_al bna0g; obtain ⟨c0bna0g, c1bna0g, c2bna0g, c3bna0g⟩ := q9)); (try have d0bna0g := Nat.ne_of_lt bna0g.lt); (try have d1bna0g := Nat.ne_of_gt bna0g.lt); (try have d2bna0g := Nat.ne_of_lt (Nat.lt_succ_of_lt bna0g.lt)); (try have d3bna0g := Nat.ne_of_gt (Nat.lt_succ_of_lt bna0g.lt)); (try (have q9 := two_al2 bna0g; obtain ⟨e0bna0g, e1bna0g, e2bna0g, e3bna0g⟩ := q9)); (try (have q9 := bng0.two; obtain ⟨a0bng0, a1bng0, a2bng0, a3bng0⟩ := q9)); (try (have q9 := two_al bng0; obtain ⟨c0bng0, c1bng0, c2bng0, c3bng0⟩ := q9)); (try have d0bng0 := Nat.ne_of_lt bng0.lt); (try have d1bng0 := Nat.ne_of_gt bng0.lt); (try have d2bng0 := Nat.ne_of_lt (Nat.lt_succ_of_lt bng0.lt)); (try have d3bng0 := Nat.ne_of_gt (Nat.lt_succ_of_lt bng0.lt)); (try (have q9 := two_al2 bng0; obtain ⟨e0bng0, e1bng0, e2bng0, e3bng0⟩ := q9)))
            | (go_at_call 47; (with_reducible refine (EX.out za zg Aa Ag ca cg _ _ wa wg _ hza hra (by repeat (first | exact Below.refl _ _ | exact bel_pre hbg (by repeat (first | exact Below.refl _ _ | apply bdw | (refine bdn ?_ _) | (refine bal ?_ (Nat.le_refl _) _))) | apply bdw | (refine bdn ?_ _) | (refine bal ?_ (Nat.le_refl _) _))) hzg hrg (by repeat (first | exact Below.refl _ _ | apply bdw | (refine bdn ?_ _) | (refine bal ?_ (Nat.le_refl _) _)))).mono ?_); rintro e wy ⟨zy, Ay, cy, rfl, hzy, hry, hby⟩; have jy : Below w2.heap.size w2 wy := bst (by repeat (first | exact Below.refl _ _ | exact ja | exact jg | exact jy | apply bdw | (refine bdn ?_ _) | (refine bal ?_ (Nat.le_refl _) _))) hby (Nat.le_refl _); obtain ⟨x0y, y0y, u0y, v0y⟩ := (BX.out.below jy BX.out.lt).two; obtain ⟨xx0y, yy0y, uu0y, vv0y⟩ := two_al (BX.out.below jy BX.out.lt); obtain ⟨x1y, y1y, u1y, v1y⟩ := (BN.out.below jy BN.out.lt).two; obtain ⟨xx1y, yy1y, uu1y, vv1y⟩ := two_al (BN.out.below jy BN.out.lt); have m0y : g5 < wy.heap.size := Nat.lt_of_lt_of_le low0 jy.size; have ma0y := Nat.ne_of_lt m0y; have mb0y := Nat.ne_of_gt m0y; have mc0y := Nat.ne_of_lt (Nat.lt_succ_of_lt m0y); have md0y := Nat.ne_of_gt (Nat.lt_succ_of_lt m0y); have m1y : g3 < wy.heap.size := Nat.lt_of_lt_of_le low1 jy.size; have ma1y := Nat.ne_of_lt m1y; have mb1y := Nat.ne_of_gt m1y; have mc1y := Nat.ne_of_lt (Nat.lt_succ_of_lt m1y); have md1y := Nat.ne_of_gt (Nat.lt_succ_of_lt m1y); (first | (have bny0 := ((blk_one wg (.bool false) (.slice none 0 0))).below hby (by simp)) | (have bny0 := ((blk_one wg (.bool false) (.slice none 0 0)).drew).below hby (by simp)) | (have bny0 := ((blk_one wg (.bool false) (.slice none 0 0)).drewN _).below hby (by simp)) | skip); (try have bna0gy := bna0g.below (bel_pre hby (by repeat (first | exact Below.refl _ _ | exact hba | exact hbg | exact hby | apply bdw | (refine bdn ?_ _) | (refine bal ?_ (Nat.le_refl _) _)))) bna0g.lt); (try have bng0y := bng0.below (bel_pre hby (by repeat (first | exact Below.refl _ _ | exact hba | exact hbg | exact hby | apply bdw | (refine bdn ?_ _) | (refine bal ?_ (Nat.le_refl _) _)))) bng0.lt); (try (have q9 := bna0gy.two; obtain ⟨a0bna0gy, a1bna0gy, a2bna0gy, a3bna0gy⟩ := q9)); (try (have q9 := two_al bna0gy; obtain ⟨c0bna0gy, c1bna0gy, c2bna0gy, c3bna0gy⟩ := q9)); (try have d0bna0gy := Nat.ne_of_lt bna0gy.lt); (try have d1bna0gy := Nat.ne_of_gt bna0gy.lt); (try have d2bna0gy := Nat.ne_of_lt (Nat.lt_succ_of_lt bna0gy.lt)); (try have d3bna0gy := Nat.ne_of_gt (Nat.lt_succ_of_lt bna0gy.lt)); (try (have q9 := two_al2 bna0gy; obtain ⟨e0bna0gy, e1bna0gy, e2bna0gy, e3bna0gy⟩ := q9)); (try (have q9 := bng0y.two; obtain ⟨a0bng0y, a1bng0y, a2bng0y, a3bng0y⟩ := q9)); (try (have q9 := two_al bng0y; obtain ⟨c0bng0y, c1bng0y, c2bng0y, c3bng0y⟩ := q9)); (try have d0bng0y := Nat.ne_of_lt bng0y.lt); (try have d1bng0y := Nat.ne_of_gt bng0y.lt); (try have d2bng0y := Nat.ne_of_lt (Nat.lt_succ_of_lt bng0y.lt)); (try have d3bng0y := Nat.ne_of_gt (Nat.lt_succ_of_lt bng0y.lt)); (try (have q9 := two_al2 bng0y; obtain ⟨e0bng0y, e1bng0y, e2bng0y, e3bng0y⟩ := q9)); (try (have q9 := bny0.two; obtain ⟨a0bny0, a1bny0, a2bny0, a3bny0⟩ := q9)); (try (have q9 := two_al bny0; obtain ⟨c0bny0, c1bny0, c2bny0, c3bny0⟩ := q9)); (try have d0bny0 := Nat.ne_of_lt bny0.lt); (try have d1bny0 := Nat.ne_of_gt bny0.lt); (try have d2bny0 := Nat.ne_of_lt (Nat.lt_succ_of_lt bny0.lt)); (try have d3bny0 := Nat.ne_of_gt (Nat.lt_succ_of_lt bny0.lt)); (try (have q9 := two_al2 bny0; obtain ⟨e0bny0, e1bny0, e2bny0, e3bny0⟩ := q9))))
          all_goals
            go_wp2_with fail
            go_meet
            have jag : Below wa.heap.size wa wg := bel_pre hbg (by repeat (first | exact Below.refl _ _ | apply bdw | (refine bdn ?_ _) | (refine bal ?_ (Nat.le_refl _) _)))
            have jgy : Below wg.heap.size wg wy := bel_pre hby (by repeat (first | exact Below.refl _ _ | apply bdw | (refine bdn ?_ _) | (refine bal ?_ (Nat.le_refl _) _)))
            have ry9 : Res wy w2.heap.size 61 Ay cy (u32s zy) := hry.mono (Nat.le_trans jg.size (by simp <;> omega))
            have l1 := ja.size
            have l2 := jg.size
            have l3 := jy.size
            have l4 := hba.size
            have l5 := hbg.size
            have l6 := hby.size
            refine ⟨_, Ay, cy, zy, rfl, ?_, hzy, ?_, ?_, (by repeat (first | exact Below.refl _ _ | exact jy | apply bdw | (refine bdn ?_ _) | (refine bal ?_ (Nat.le_refl _) _) | (refine bsc ?_ (by first | exact Nat.le_refl _ | exact Nat.le_succ _ | exact l1 | exact Nat.le_succ_of_le l1 | exact l2 | exact Nat.le_succ_of_le l2 | exact l3 | exact Nat.le_succ_of_le l3) _)))⟩
            all_goals first
              | (simp at l1 l2 l3 l4 l5 l6 ⊢; done)
              | (simp at l1 l2 l3 l4 l5 l6 ⊢; omega)
              | ((repeat' (first | with_reducible exact ry9 | with_reducible exact bna0y | with_reducible exact bna0gy | with_reducible exact bna0g | with_reducible exact bng0y | with_reducible exact bng0 | with_reducible exact bny0 | (with_reducible apply Rs.al) | (with_reducible apply res_al9) | (with_reducible apply Rs.var2) | (with_reducible apply res_var2) | (with_reducible apply blk_pair) | (with_reducible refine Blk.far ?_ (by show _ ≠ _; first | assumption | simp) _) | (with_reducible exact Blk.new_ rfl) | (with_reducible exact blk_two rfl) | (with_reducible refine Blk.heapAlloc ?_ _))); done)
        case rest =>
          obtain ⟨g6, Ay, cy, zy, rfl, b6, ny, ry, l6, j9⟩ := hcut
          obtain ⟨v9, rfl⟩ : ∃ v9 : World, v9 = wc := ⟨_, rfl⟩
          have k9 := bst j2 j9 (Nat.le_refl _)
          obtain ⟨p0, p1, _, _⟩ := (BN.out.below j9 low1).two
          obtain ⟨p2, p3, _, _⟩ := b6.two
          go_wp2_with fail
          refine (MU.out zy Ay cy _ v9 _ ny ry (Below.refl _ _) k9).mono ?_
          rintro e v10 ⟨zm, Am, cm, rfl, hzm, hrm, hbm⟩
          have k10 := bst k9 hbm (Nat.le_refl _)
          have kw := bst KB.out k10 (Nat.le_refl _)
          have B3 := HB3.out.below k10 s0
          have B2 := HB2.out.below k10 HB2.out.lt
          have rs : Res v10 w.heap.size 61 Am cm (u32s zm) := hrm.mono (Nat.le_trans KB.out.size k9.size)
          obtain ⟨q0, q1, q2, q3⟩ := B3.two
          clear p0 p1 p2 p3 r0 r1 AB GC EX MU hbm hrm ry b6 BX BN
          go_wp2_with fail
          go_roundw
          case rel => exact ⟨k + 1, zm, Am, cm, by omega, by go_num, by rw [← Hm.out]; exact blk_pair B3 _ _, by rw [← Hm.out]; exact hzm, res_var2 rs B3 _ _, (B2.far (p := ⟨g3, 0, none⟩) (by show w.heap.size ≠ g3; omega) _).far (p := ⟨g3, 1, none⟩) (by show w.heap.size ≠ g3; omega) _, bsc (bsc kw (by omega) _) (by omega) _⟩
          case measure => simp [intOf]; omega
    · obtain rfl : k = l.length := by omega
      obtain ⟨m, hm⟩ : ∃ m, m = lcmTo l l.length := ⟨_, rfl⟩
      rw [← hm] at hn b3r
      have Hm := Lib.hid hm
      obtain ⟨q0, q1, q2, q3⟩ := b2r.two
      obtain ⟨r0, r1, _, _⟩ := b3r.two
      have HB2 := Lib.hid b2r
      have KB := Lib.hid hbel
      clear hm hlt hk b2r b3r hbel
      go_wp2_with fail
      rw [← Hm.out]
      exact zretT (z := (m : Nat)) KB.out HB2.out (Nat.le_refl _) hn hr rfl rfl rfl rfl
end Go.Proofs.YtanlejlmckdeiaaGreatDoor
