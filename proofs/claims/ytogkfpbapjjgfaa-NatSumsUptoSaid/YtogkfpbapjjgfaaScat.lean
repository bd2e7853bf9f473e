/- The contract of scatter. Conditions: the length is a power of two, the roots are half as many. -/
import Derived.Test.YtogkfpbapjjgfaaTrans2
import Derived.IntWalk
namespace Go.Proofs.Ytogkfpbapjjgfaa
open Go.RowKit

/-- A row that is partly turned: new below f, and i places of two halves from f on. -/
def Mix (S T : Nat → FP) (n f h i : Nat) (zs : List Nat) : Prop :=
  zs.length = n ∧ (∀ v ∈ zs, v < 18446744069414584321) ∧ ∀ j (hj : j < zs.length), ph zs[j] = if j < f ∨ (f ≤ j ∧ j < f + i) ∨ (f + h ≤ j ∧ j < f + h + i) then T j else S j
/-- A row that is S. -/
def Row (S : Nat → FP) (n : Nat) (zs : List Nat) : Prop :=
  zs.length = n ∧ (∀ v ∈ zs, v < 18446744069414584321) ∧ ∀ j (hj : j < zs.length), ph zs[j] = S j
theorem Mix.start {S T : Nat → FP} {n h : Nat} {zs : List Nat} (hr : Row S n zs) : Mix S T n 0 h 0 zs :=
  ⟨hr.1, hr.2.1, fun j hj => by rw [if_neg (by omega)]; exact hr.2.2 j hj⟩
theorem Mix.next {S T : Nat → FP} {n f h : Nat} {zs : List Nat} (hm : Mix S T n f h h zs) : Mix S T n (f + 2 * h) h 0 zs :=
  ⟨hm.1, hm.2.1, fun j hj => by
    rw [hm.2.2 j hj]
    by_cases h1 : j < f + 2 * h
    · rw [if_pos (by omega), if_pos (by omega)]
    · rw [if_neg (by omega), if_neg (by omega)]⟩
theorem Mix.done {S T : Nat → FP} {n h : Nat} {zs : List Nat} (hm : Mix S T n n h 0 zs) : Row T n zs :=
  ⟨hm.1, hm.2.1, fun j hj => by rw [hm.2.2 j hj, if_pos (by have := hm.1; omega)]⟩
theorem Mix.old {S T : Nat → FP} {n f h i j : Nat} {zs : List Nat} (hm : Mix S T n f h i zs) (hj : j < zs.length) (h1 : f ≤ j) (h2 : ¬ (j < f + i)) (h3 : ¬ (f + h ≤ j ∧ j < f + h + i)) : ph zs[j] = S j := by
  rw [hm.2.2 j hj, if_neg (by omega)]
theorem Mix.step {S T : Nat → FP} {n f h i a b : Nat} {zs : List Nat} (hm : Mix S T n f h i zs) (hi : i < h) (_ : f + 2 * h ≤ n) (ha : a < 18446744069414584321) (hb : b < 18446744069414584321) (ea : ph a = T (f + i)) (eb : ph b = T (f + h + i)) : Mix S T n f h (i + 1) ((zs.set (f + i) a).set (f + h + i) b) := by
  refine ⟨by simpa using hm.1, fun v hv => ?_, fun j hj => ?_⟩
  · rcases List.mem_or_eq_of_mem_set hv with hv | rfl
    · rcases List.mem_or_eq_of_mem_set hv with hv | rfl
      · exact hm.2.1 v hv
      · exact ha
    · exact hb
  · have hj2 : j < zs.length := by simpa using hj
    rw [List.getElem_set]
    split
    · rename_i e
      subst e
      rw [if_pos (by omega)]; exact eb
    · rw [List.getElem_set]
      split
      · rename_i e
        subst e
        rw [if_pos (by omega)]; exact ea
      · rw [hm.2.2 j hj2]
        by_cases h1 : j < f ∨ (f ≤ j ∧ j < f + i) ∨ (f + h ≤ j ∧ j < f + h + i)
        · rw [if_pos h1, if_pos (by omega)]
        · rw [if_neg h1, if_neg (by omega)]

theorem ph_sub {u v : Nat} (hv : v < 18446744069414584321) : ph ((u + 18446744069414584321 - v) % 18446744069414584321) = ph u - ph v := by
  have h1 : ph (u + 18446744069414584321 - v) + ph v = ph u := by
    rw [← ph_add, show u + 18446744069414584321 - v + v = u + 18446744069414584321 from by omega]
    apply ph_of_mod; omega
  rw [ph_mod]
  grind
theorem sLay_low {z9 : Nat} {h q i : Nat} (rt S : Nat → Fin z9) (hi : i < h) : sLay h rt S (2 * h * q + i) = S (2 * h * q + i) + S (2 * h * q + h + i) := by
  unfold sLay
  rw [mod_low hi, if_pos hi, show 2 * h * q + i + h = 2 * h * q + h + i from by omega]
theorem sLay_high {z9 : Nat} {h q i : Nat} (rt S : Nat → Fin z9) (hi : i < h) : sLay h rt S (2 * h * q + h + i) = (S (2 * h * q + i) - S (2 * h * q + h + i)) * rt i := by
  unfold sLay
  rw [mod_high hi, if_neg (by omega), show 2 * h * q + h + i - h = 2 * h * q + i from by omega, show h + i - h = i from by omega]
theorem gLay_low {z9 : Nat} {h q i : Nat} (rt S : Nat → Fin z9) (hi : i < h) : gLay h rt S (2 * h * q + i) = S (2 * h * q + i) + S (2 * h * q + h + i) * rt i := by
  unfold gLay
  rw [mod_low hi, if_pos hi, show 2 * h * q + i + h = 2 * h * q + h + i from by omega]
theorem gLay_high {z9 : Nat} {h q i : Nat} (rt S : Nat → Fin z9) (hi : i < h) : gLay h rt S (2 * h * q + h + i) = S (2 * h * q + i) - S (2 * h * q + h + i) * rt i := by
  unfold gLay
  rw [mod_high hi, if_neg (by omega), show 2 * h * q + h + i - h = 2 * h * q + i from by omega, show h + i - h = i from by omega]

/-- The roots of a layer, read off a list. -/
def rtsL (rs : List Nat) (k : Nat) : Nat → Nat → FP := fun h i => ph (rs.getD (i * (2 ^ (k - 1) / h)) 0)

theorem p_lt (zs : List Nat) (h : ∀ v ∈ zs, v < 18446744069414584321) (j : Nat) (hj : j < zs.length) : zs[j] < 18446744069414584321 := h _ (List.getElem_mem hj)

theorem lay_ix {h B i : Nat} (hi : i < h) : i * B < h * B ∨ B = 0 := by
  rcases Nat.eq_zero_or_pos B with h0 | h0
  · exact Or.inr h0
  · exact Or.inl (Nat.mul_lt_mul_of_pos_right hi h0)

set_option maxHeartbeats 3200000 in
set_option maxRecDepth 100000 in
theorem scatter_any (g : Nat) (xs rs : List Nat) (k : Nat) (A : Option Addr) (c : Nat) (w : World) (hblk : Blk w g 44 (u64s xs)) (hrx : Rx w g A (u64s rs)) (hk : 1 ≤ k) (hk2 : k ≤ 40) (hxl : xs.length = 2 ^ k) (hrl : rs.length = 2 ^ (k - 1)) (hxp : ∀ v ∈ xs, v < 18446744069414584321) (hrp : ∀ v ∈ rs, v < 18446744069414584321) :
    Calls Try.prog 71 #[.slice (some ⟨g, 0, none⟩) xs.length xs.length, .slice A rs.length c] w fun e w' => ∃ zs, e = .returned (.tuple #[]) ∧ Row (sAll (rtsL rs k) k k (fl xs)) (2 ^ k) zs ∧ Blk w' g 44 (u64s zs) ∧ Tn g w w' := by
  obtain ⟨N, hN⟩ : ∃ N, N = 2 ^ (k - 1) := ⟨_, rfl⟩
  have hk9 : 2 ^ k = 2 * N := by rw [hN, ← Nat.pow_succ']; congr 1; omega
  have hNb : N ≤ 1099511627776 := by rw [hN, show (1099511627776 : Nat) = 2 ^ 40 from rfl]; exact Nat.pow_le_pow_right (by omega) (by omega)
  have hN0 : 1 ≤ N := by rw [hN]; exact Nat.two_pow_pos _
  obtain ⟨M, hM⟩ : ∃ M, M = 2 * N := ⟨_, rfl⟩
  rw [← hM] at hk9
  have hrow0 : Row (sAll (rtsL rs k) k 0 (fl xs)) M xs := ⟨hxl.trans hk9, hxp, fun j hj => by
    show ph xs[j] = ph (xs.getD j 0)
    rw [List.getD_eq_getElem?_getD, List.getElem?_eq_getElem hj]; rfl⟩
  rw [← hN] at hrl
  have hxl2 : xs.length = M := hxl.trans hk9
  have HN := Lib.hid hN
  have Hk9 := Lib.hid hk9
  rw [hxl2, hrl]
  have hgw := hblk.lt
  have q1 : (M : Int) / 2 = (N : Int) := by omega
  have HM := Lib.hid hM
  have hMb : M ≤ 2199023255552 := by omega
  have Hrp : Hid (∀ v ∈ rs, v < 18446744069414584321) := hrp
  have Hrl := Lib.hid hrl
  clear hN hk9 hxl hxl2 hrp hrl hM
  go_enter Try.func71, Try.ntmps71
  go_wp2_with fail
  go_loopw [4, 5, 6, 7, 8, 9, 10, 11] (fun hv _ _ _ _ _ _ _ wr => ∃ (m h : Nat) (zs : List Nat), m ≤ k ∧ hv = .int .i64 h ∧ Hid (m < k → h = 2 ^ (k - 1 - m)) ∧ Hid (m = k → h = 0) ∧ Row (sAll (rtsL rs k) k m (fl xs)) M zs ∧ Blk wr g 44 (u64s zs) ∧ Tn g w wr) (fun hv _ _ _ _ _ _ _ _ => (intOf hv).toNat)
  case atStart => exact ⟨0, N, xs, by omega, rfl, fun _ => by rw [HN.out]; rfl, fun e => by omega, hrow0, hblk, Tn.refl _ _⟩
  case round =>
    clear hrow0 hblk
    obtain ⟨m, h, zs, hm, rfl, Hh, Hh0, hrow, hblk, htn⟩ := hrel
    by_cases hmk : m < k
    · have hh := Hh.out hmk
      obtain ⟨D, hD⟩ : ∃ D, D = 2 ^ m := ⟨_, rfl⟩
      have hh1 : 1 ≤ h := by rw [hh]; exact Nat.two_pow_pos _
      have hNB : N = h * D := by rw [HN.out, hh, hD, ← Nat.pow_add]; congr 1; omega
      have q2 : (N : Int) / (h : Int) = (D : Int) := by
        rw [hNB]
        have h9 : ((h * D : Nat) : Int) / (h : Int) = ((h * D / h : Nat) : Int) := (Int.natCast_ediv _ _).symm
        rw [h9, Nat.mul_div_cancel_left _ (by omega)]
      have q3 : (N : Int).tdiv (h : Int) = (D : Int) := by rw [Int.tdiv_eq_ediv_of_nonneg (by omega), q2]
      have hDN : D ≤ N := by rw [hNB]; exact Nat.le_mul_of_pos_left _ (by omega)
      have hdv := Lib.hid (show 2 ^ (k - 1) / h = D from by rw [← HN.out, hNB, Nat.mul_div_cancel_left _ (by omega)])
      obtain ⟨h2, hh2⟩ := nameIt (h / 2)
      have q4 : (h : Int) / 2 = (h2 : Int) := by omega
      have hlt2 : h2 < h := by omega
      have Hh2a : Hid (m + 1 < k → h2 = 2 ^ (k - 1 - (m + 1))) := fun hmk2 => by
        rw [hh2, hh, show k - 1 - m = k - 1 - (m + 1) + 1 from by omega, Nat.pow_succ]; omega
      have Hh2b : Hid (m + 1 = k → h2 = 0) := fun hmk2 => by
        rw [hh2, hh, show k - 1 - m = 0 from by omega]
      have hT : sAll (rtsL rs k) k (m + 1) (fl xs) = sLay h (rtsL rs k h) (sAll (rtsL rs k) k m (fl xs)) := by
        rw [hh]; rfl
      have HT := Lib.hid hT
      obtain ⟨S, hS⟩ : ∃ S, S = sAll (rtsL rs k) k m (fl xs) := ⟨_, rfl⟩
      rw [← hS] at hrow HT
      obtain ⟨T, hT2⟩ : ∃ T, T = sLay h (rtsL rs k h) S := ⟨_, rfl⟩
      have HT2 := Lib.hid hT2
      rw [← hT2] at HT
      have HNB := Lib.hid hNB
      have t1 : decide ((1 : Int) ≤ (h : Int)) = true := by simp; omega
      have hne : ¬ ((h : Int) = 0) := by omega
      have hne2 : ((h : Int) == 0) = false := by simp; omega
      have hhN : h ≤ N := by rw [hNB]; exact Nat.le_mul_of_pos_right _ (by rw [hD]; exact Nat.two_pow_pos _)
      clear hh hD hNB hh2 hS hT hT2 Hh Hh0
      go_wp2_with fail
      go_loopw [6, 7, 8, 9, 10, 11] (fun fv _ _ _ _ _ wr => ∃ (q f : Nat) (zs : List Nat), q ≤ D ∧ fv = .int .i64 f ∧ Hid (f = 2 * h * q) ∧ f ≤ M ∧ Mix S T M f h 0 zs ∧ Blk wr g 44 (u64s zs) ∧ Tn g w wr) (fun fv _ _ _ _ _ _ => M - (intOf fv).toNat)
      case atStart => exact ⟨0, 0, zs, by omega, rfl, rfl, by omega, Mix.start hrow, hblk, htn⟩
      case round =>
        clear hrow hblk htn
        obtain ⟨q, f, zs, hq, rfl, Hf, hfN, hmix, hblk, htn⟩ := hrel
        by_cases hlt : f < M
        · have hqD : q < D := by
            rcases Nat.lt_or_ge q D with h9 | h9
            · exact h9
            · exfalso
              have e1 := Hf.out
              rw [HM.out, HNB.out] at hlt
              have e2 : 2 * h * D ≤ 2 * h * q := Nat.mul_le_mul_left _ h9
              rw [Nat.mul_assoc] at e2
              omega
          have hf2 : f + 2 * h ≤ M := by
            have e1 := Hf.out
            rw [HM.out]
            have e2 : 2 * h * (q + 1) ≤ 2 * h * D := Nat.mul_le_mul_left _ hqD
            rw [Nat.mul_succ, Nat.mul_assoc 2 h D, ← HNB.out] at e2
            omega
          have Hf2 : Hid (f + 2 * h = 2 * h * (q + 1)) := by
            have e1 := Hf.out
            show f + 2 * h = _
            rw [Nat.mul_succ]; omega
          obtain ⟨fh, hfh⟩ := nameIt (f + h)
          obtain ⟨hd, hhd⟩ := nameIt (2 * h)
          obtain ⟨f2, hff2⟩ := nameIt (f + hd)
          have e1 : (f : Int) + (h : Int) = (fh : Int) := by omega
          have e2 : 2 * (h : Int) = (hd : Int) := by omega
          have e3 : (f : Int) + (hd : Int) = (f2 : Int) := by omega
          have ew1 : IntKind.i64.wrap (fh : Int) = (fh : Int) := IntWalk.i64_in _ (by omega)
          have ew2 : IntKind.i64.wrap (hd : Int) = (hd : Int) := IntWalk.i64_in _ (by omega)
          have ew3 : IntKind.i64.wrap (f2 : Int) = (f2 : Int) := IntWalk.i64_in _ (by omega)
          have j2 : fh ≤ M := by omega
          have j3 : f2 ≤ M := by omega
          have j4 : ¬ (M = f) := by omega
          have j5 : ¬ (M = fh) := by omega
          have j6 : f ≤ fh := by omega
          have j7 : fh ≤ f2 := by omega
          have j8 : fh - f = h := by omega
          have j9 : f2 - fh = h := by omega
          have Hfh := Lib.hid hfh
          have Hff2 : Hid (f2 = f + 2 * h) := (by omega : f2 = f + 2 * h)
          clear hfh hhd hff2 hf2
          go_upto_region 7 with (fail)
          go_region_held3 (fun _ => True) (exact trivial) (fail)
          all_goals
            go_wp2_with fail
            go_loopw [9, 10, 11, 48] (fun _ _ _ iv wr => ∃ (i : Nat) (zs : List Nat), i ≤ h ∧ iv = .int .i64 i ∧ Mix S T M f h i zs ∧ Blk wr g 44 (u64s zs) ∧ Tn g w wr) (fun _ _ _ iv _ => h - (intOf iv).toNat)
            case atStart => exact ⟨0, zs, by omega, rfl, hmix, by first | exact hblk | exact hblk.drew, by first | exact htn | exact htn.drew⟩
            case round =>
              clear hmix hblk htn
              obtain ⟨i, zs, hi, rfl, hmix, hblk, htn⟩ := hrel
              by_cases hih : i < h
              · have hfh := Hfh.out
                have hff2 := Hff2.out
                have hzl := hmix.1
                have hix1 : f + i < zs.length := by omega
                have hix2 : fh + i < zs.length := by omega
                obtain ⟨u, hu⟩ : ∃ u, u = zs[f + i] := ⟨_, rfl⟩
                obtain ⟨v, hv⟩ : ∃ v, v = zs[fh + i] := ⟨_, rfl⟩
                have cu := (hblk.cell (f + i)).trans (u64s_at hix1)
                have cv := (hblk.cell (fh + i)).trans (u64s_at hix2)
                rw [← hu] at cu
                rw [← hv] at cv
                have hup : u < 18446744069414584321 := by rw [hu]; exact p_lt zs hmix.2.1 _ _
                have hvp : v < 18446744069414584321 := by rw [hv]; exact p_lt zs hmix.2.1 _ _
                have eu : ph u = S (f + i) := by rw [hu]; exact hmix.old hix1 (by omega) (by omega) (by omega)
                have ev : ph v = S (f + h + i) := by rw [hv, show S (f + h + i) = S (fh + i) from by rw [hfh]]; exact hmix.old hix2 (by omega) (by omega) (by omega)
                have fu := hblk.frozen (f + i)
                obtain ⟨a, hae⟩ : ∃ a, a = (u + v) % 18446744069414584321 := ⟨_, rfl⟩
                obtain ⟨d, hde⟩ := nameIt ((u + 18446744069414584321 - v) % 18446744069414584321)
                have hap : a < 18446744069414584321 := by rw [hae]; exact Nat.mod_lt _ (by omega)
                have hdp : d < 18446744069414584321 := by rw [hde]; exact Nat.mod_lt _ (by omega)
                have hadd := fun W => fieldAdd_any u v hup hvp W
                have hsub := fun W => fieldSub_any u v hup hvp W
                rw [← hae] at hadd
                rw [← hde] at hsub
                have Hadd := Lib.hid hadd
                have Hsub := Lib.hid hsub
                have ea : ph a = S (f + i) + S (f + h + i) := by rw [hae, ph_mod, ph_add, eu, ev]
                have ed : ph d = S (f + i) - S (f + h + i) := by rw [hde, ph_sub hvp, eu, ev]
                obtain ⟨ix, hix⟩ : ∃ ix, ix = i * D := ⟨_, rfl⟩
                have hixN : ix < N := by
                  rw [hix, HNB.out]
                  exact Nat.mul_lt_mul_of_pos_right hih (by
                    rcases Nat.eq_zero_or_pos D with h0 | h0
                    · exfalso; have := HNB.out; rw [h0] at this; omega
                    · exact h0)
                have e5 : (i : Int) * (D : Int) = (ix : Int) := by rw [hix]; simp
                have ew5 : IntKind.i64.wrap (ix : Int) = (ix : Int) := IntWalk.i64_in _ (by omega)
                have ixr : ix < rs.length := by rw [Hrl.out]; exact hixN
                obtain ⟨b, off, rfl, hbw, hbg, hx⟩ := (hrx.tn htn).at64 ixr
                have hrv : rs[ix] < 18446744069414584321 := Hrp.out _ (List.getElem_mem ixr)
                have ert : ph rs[ix] = rtsL rs k h i := by
                  unfold rtsL
                  rw [hdv.out, ← hix, List.getD_eq_getElem?_getD, List.getElem?_eq_getElem ixr]; rfl
                obtain ⟨r, hre⟩ : ∃ r, r = rs[ix] := ⟨_, rfl⟩
                rw [← hre] at hx hrv ert
                have hmul := fun W => fieldMul_any d r (by omega) (by omega) W
                obtain ⟨bv, hbe⟩ : ∃ bv, bv = d * r % 18446744069414584321 := ⟨_, rfl⟩
                rw [← hbe] at hmul
                have hbp : bv < 18446744069414584321 := by rw [hbe]; exact Nat.mod_lt _ (by omega)
                have eb : ph bv = (S (f + i) - S (f + h + i)) * rtsL rs k h i := by rw [hbe, ph_mod, ph_mul, ed, ert]
                have Hmul := Lib.hid hmul
                have hst := hmix.step hih (by omega) hap hbp (by rw [ea, HT2.out, Hf.out, sLay_low _ _ hih]) (by rw [eb, HT2.out, Hf.out, sLay_high _ _ hih])
                rw [← hfh] at hst
                have Hst := Lib.hid hst
                have Hzl := Lib.hid hzl
                have hne9 : ¬ (f + i = fh + i) := by omega
                have ji1 : i < M - f := by omega
                have ji2 : i < M - fh := by omega
                clear hst hmul hadd hsub hae hde hbe hre hix eu ev ea ed eb ert hu hv hfh hff2 hzl
                go_upto_region 13 with (go_at_call 87; (with_reducible refine (Hadd.out _).mono ?_); rintro e w' ⟨rfl, rfl⟩)
                have hb1 := hblk.set_ (f + i) (.int .u64 (a : Int))
                rw [u64s_set] at hb1
                have htn1 := htn.setCell (f + i) (.int .u64 (a : Int))
                obtain ⟨vv, cv1⟩ : ∃ vv, (wr.setCell ⟨g, f + i, none⟩ (.int .u64 (a : Int))).cell? ⟨g, fh + i, none⟩ = some vv := ⟨_, (hb1.cell (fh + i)).trans (u64s_at (by rw [List.length_set]; exact hix2))⟩
                have fv1 := hb1.frozen (fh + i)
                have hx1 : (wr.setCell ⟨g, f + i, none⟩ (.int .u64 (a : Int))).cell? ⟨b, off + ix, none⟩ = some (.int .u64 (r : Int)) := by rw [← hx]; exact World.cell?_setCell_far _ _ _ _ (Ne.symm hbg)
                obtain ⟨W1, hW1⟩ : ∃ W1, W1 = wr.setCell ⟨g, f + i, none⟩ (.int .u64 (a : Int)) := ⟨_, rfl⟩
                rw [← hW1] at hb1 htn1 cv1 fv1 hx1 ⊢
                have hne10 : ¬ (g = b) := fun e => hbg e.symm
                have hne11 : ¬ (b = g) := hbg
                clear hW1 hx cu cv fu
                go_region_held3 (fun W => W.cell? ⟨b, off + ix, none⟩ = some (.int .u64 (r : Int))) (go_keep) (first
                  | (go_at_call 88; (with_reducible refine (Hsub.out _).mono ?_); rintro e w' ⟨rfl, rfl⟩)
                  | (go_at_call 72; (with_reducible refine (Hmul.out _).mono ?_); rintro e w' ⟨rfl, rfl⟩))
                all_goals
                  go_wp2_with fail
                  go_roundw
                  case rel =>
                    have hb2 := hb1.set_ (fh + i) (.int .u64 (bv : Int))
                    rw [u64s_set] at hb2
                    have htn2 := htn1.setCell (fh + i) (.int .u64 (bv : Int))
                    exact ⟨i + 1, _, by omega, by go_num, Hst.out, by first | exact hb2 | exact hb2.drew, by first | exact htn2 | exact htn2.drew⟩
                  case measure => simp [intOf]; omega
              · have hih2 : i = h := by omega
                have hmix2 : Mix S T M f2 h 0 zs := by
                  rw [Hff2.out]; rw [hih2] at hmix; exact hmix.next
                have hh9 : h ≤ i := by omega
                clear hih2 hmix
                go_wp2_with fail
                go_roundw
                case rel => exact ⟨q + 1, f2, zs, by omega, rfl, by rw [Hff2.out, Hf2.out]; exact rfl, j3, hmix2, hblk, htn⟩
                case measure => simp [intOf]; omega
        · have hfM : f = M := by omega
          rw [hfM] at hmix
          have hrow := hmix.done
          rw [← HT.out] at hrow
          have hMf : M ≤ f := by omega
          clear hfM hmix
          go_wp2_with fail
          go_roundw
          case rel => exact ⟨m + 1, h2, zs, by omega, rfl, Hh2a, Hh2b, hrow, hblk, htn⟩
          case measure => simp [intOf]; omega
    · have hm2 : m = k := by omega
      have hh := Hh0.out hm2
      subst hh
      have t1 : decide ((1 : Int) ≤ 0) = false := by decide
      have Hm2 := Lib.hid hm2
      clear hm2
      have h9 := hrow
      rw [Hm2.out] at h9
      have H9 := Lib.hid h9
      clear h9 hrow
      go_wp2_with fail
      go_end0
      rw [Hk9.out]
      exact ⟨rfl, zs, H9.out, hblk, htn⟩
end Go.Proofs.Ytogkfpbapjjgfaa
