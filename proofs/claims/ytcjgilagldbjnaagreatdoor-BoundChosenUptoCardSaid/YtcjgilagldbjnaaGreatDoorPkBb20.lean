/- The contract of scatter. The contract of gather. The contract of byTransform. The walk of byTransform. The contract of product, for all words: by induction on thei. -/
import Derived.Test.YtcjgilagldbjnaaGreatDoorPkBb19
import Derived.IntWalk
import Derived.Deep.RegionWith
namespace Go.Proofs.YtcjgilagldbjnaaGreatDoor
section
open Go.RowKit
def Mix (S T : Nat → FP) (n f h i : Nat) (zs : List Nat) : Prop :=
 zs.length = n ∧ (∀ v ∈ zs, v < 18446744069414584321) ∧ ∀ j (hj : j < zs.length), ph zs[j] = if j < f ∨ (f ≤ j ∧ j < f + i) ∨ (f + h ≤ j ∧ j < f + h + i) then T j else S j
def Row (S : Nat → FP) (n : Nat) (zs : List Nat) : Prop :=
 zs.length = n ∧ (∀ v ∈ zs, v < 18446744069414584321) ∧ ∀ j (hj : j < zs.length), ph zs[j] = S j
theorem Mix.start {S T : Nat → FP} {n h : Nat} {zs : List Nat} (hr : Row S n zs) : Mix S T n 0 h 0 zs :=
 ⟨hr.1, hr.2.1, fun j hj => by rw [if_neg (by omega)]; exact hr.2.2 j hj⟩
theorem Mix.next {S T : Nat → FP} {n f h : Nat} {zs : List Nat} (hm : Mix S T n f h h zs) : Mix S T n (f + 2 * h) h 0 zs :=
 ⟨hm.1, hm.2.1, fun j hj => by
  rw [hm.2.2 j hj]
  by_cases h1 : j < f + 2 * h
  ·rw [if_pos (by omega), if_pos (by omega)]
  ·rw [if_neg (by omega), if_neg (by omega)]⟩
theorem Mix.done {S T : Nat → FP} {n h : Nat} {zs : List Nat} (hm : Mix S T n n h 0 zs) : Row T n zs :=
 ⟨hm.1, hm.2.1, fun j hj => by rw [hm.2.2 j hj, if_pos (by have := hm.1; omega)]⟩
theorem Mix.old {S T : Nat → FP} {n f h i j : Nat} {zs : List Nat} (hm : Mix S T n f h i zs) (hj : j < zs.length) (h1 : f ≤ j) (h2 : ¬ (j < f + i)) (h3 : ¬ (f + h ≤ j ∧ j < f + h + i)) : ph zs[j] = S j := by
 rw [hm.2.2 j hj, if_neg (by omega)]
theorem Mix.step {S T : Nat → FP} {n f h i a b : Nat} {zs : List Nat} (hm : Mix S T n f h i zs) (hi : i < h) (_ : f + 2 * h ≤ n) (ha : a < 18446744069414584321) (hb : b < 18446744069414584321) (ea : ph a = T (f + i)) (eb : ph b = T (f + h + i)) : Mix S T n f h (i + 1) ((zs.set (f + i) a).set (f + h + i) b) := by
 refine ⟨by simpa using hm.1, fun v hv => ?_, fun j hj => ?_⟩
 ·rcases List.mem_or_eq_of_mem_set hv with hv | rfl
  ·rcases List.mem_or_eq_of_mem_set hv with hv | rfl
   ·exact hm.2.1 v hv
   ·exact ha
  ·exact hb
 ·have hj2 : j < zs.length := by simpa using hj
  rw [List.getElem_set]
  split
  ·rename_i e
   subst e
   rw [if_pos (by omega)]; exact eb
  ·rw [List.getElem_set]
   split
   ·rename_i e
    subst e
    rw [if_pos (by omega)]; exact ea
   ·rw [hm.2.2 j hj2]
    by_cases h1 : j < f ∨ (f ≤ j ∧ j < f + i) ∨ (f + h ≤ j ∧ j < f + h + i)
    ·rw [if_pos h1, if_pos (by omega)]
    ·rw [if_neg h1, if_neg (by omega)]
theorem ph_sub {u v : Nat} (hv : v < 18446744069414584321) : ph ((u + 18446744069414584321 - v) % 18446744069414584321) = ph u - ph v := by
 have h1 : ph (u + 18446744069414584321 - v) + ph v = ph u := by
  rw [← ph_add, show u + 18446744069414584321 - v + v = u + 18446744069414584321 from by omega]
  apply ph_of_mod; omega
 rw [ph_mod]
 grind
theorem sLay_low {z9 : Nat} {h q i : Nat} (rt S : Nat → Fin z9) (hi : i < h) : sLay h rt S (2 * h * q + i) = S (2 * h * q + i) + S (2 * h * q + h + i) := by
 unfold sLay
 rw [mod_low hi, if_pos hi, show 2 * h * q + i + h = 2 * h * q + h + i from by omega]
theorem sLay_high {z9 : Nat} {h q i : Nat} (rt S : Nat → Fin z9) (hi : i < h) : sLay h rt S (2 * h * q + h + i) = (S (2 * h * q + i) - S (2 * h * q + h + i)) * rt i := by
 unfold sLay
 rw [mod_high hi, if_neg (by omega), show 2 * h * q + h + i - h = 2 * h * q + i from by omega, show h + i - h = i from by omega]
theorem gLay_low {z9 : Nat} {h q i : Nat} (rt S : Nat → Fin z9) (hi : i < h) : gLay h rt S (2 * h * q + i) = S (2 * h * q + i) + S (2 * h * q + h + i) * rt i := by
 unfold gLay
 rw [mod_low hi, if_pos hi, show 2 * h * q + i + h = 2 * h * q + h + i from by omega]
theorem gLay_high {z9 : Nat} {h q i : Nat} (rt S : Nat → Fin z9) (hi : i < h) : gLay h rt S (2 * h * q + h + i) = S (2 * h * q + i) - S (2 * h * q + h + i) * rt i := by
 unfold gLay
 rw [mod_high hi, if_neg (by omega), show 2 * h * q + h + i - h = 2 * h * q + i from by omega, show h + i - h = i from by omega]
def rtsL (rs : List Nat) (k : Nat) : Nat → Nat → FP := fun h i => ph (rs.getD (i * (2 ^ (k - 1) / h)) 0)
theorem p_lt (zs : List Nat) (h : ∀ v ∈ zs, v < 18446744069414584321) (j : Nat) (hj : j < zs.length) : zs[j] < 18446744069414584321 := h _ (List.getElem_mem hj)
set_option maxHeartbeats 3200000 in
set_option maxRecDepth 100000 in
theorem scatter_any (g : Nat) (xs rs : List Nat) (k : Nat) (A : Option Addr) (c : Nat) (w : World) (hblk : Blk w g 53 (u64s xs)) (hrx : Rx w g A (u64s rs)) (hk : 1 ≤ k) (hk2 : k ≤ 40) (hxl : xs.length = 2 ^ k) (hrl : rs.length = 2 ^ (k - 1)) (hxp : ∀ v ∈ xs, v < 18446744069414584321) (hrp : ∀ v ∈ rs, v < 18446744069414584321) :
  Calls Tryz.prog 99 #[.slice (some ⟨g, 0, none⟩) xs.length xs.length, .slice A rs.length c] w fun e w' => ∃ zs, e = .returned (.tuple #[]) ∧ Row (sAll (rtsL rs k) k k (fl xs)) (2 ^ k) zs ∧ Blk w' g 53 (u64s zs) ∧ Tn g w w' := by
 obtain ⟨N, hN⟩ : ∃ N, N = 2 ^ (k - 1) := ⟨_, rfl⟩
 have hk9 : 2 ^ k = 2 * N := by rw [hN, ← Nat.pow_succ']; congr 1; omega
 have hNb : N ≤ 1099511627776 := by rw [hN, show (1099511627776 : Nat) = 2 ^ 40 from rfl]; exact Nat.pow_le_pow_right (by omega) (by omega)
 have hN0 : 1 ≤ N := by rw [hN]; exact Nat.two_pow_pos _
 obtain ⟨M, hM⟩ : ∃ M, M = 2 * N := ⟨_, rfl⟩
 rw [← hM] at hk9
 have hrow0 : Row (sAll (rtsL rs k) k 0 (fl xs)) M xs := ⟨hxl.trans hk9, hxp, fun j hj => by
  show ph xs[j] = ph (xs.getD j 0)
  rw [List.getD_eq_getElem?_getD, List.getElem?_eq_getElem hj]; rfl⟩
 rw [← hN] at hrl
 have hxl2 : xs.length = M := hxl.trans hk9
 have HN := hi9 hN
 have Hk9 := hi9 hk9
 rw [hxl2, hrl]
 have hgw := hblk.lt
 have q1 : (M : Int) / 2 = (N : Int) := by omega
 have HM := hi9 hM
 have hMb : M ≤ 2199023255552 := by omega
 have Hrp : Hid (∀ v ∈ rs, v < 18446744069414584321) := hrp
 have Hrl := hi9 hrl
 clear hN hk9 hxl hxl2 hrp hrl hM
 go_enter Tryz.func99, Tryz.ntmps99
 go_wp2_with fail
 go_loopw [4, 5, 6, 7, 8, 9, 10, 11] (fun hv _ _ _ _ _ _ _ wr => ∃ (m h : Nat) (zs : List Nat), m ≤ k ∧ hv = .int .i64 h ∧ Hid (m < k → h = 2 ^ (k - 1 - m)) ∧ Hid (m = k → h = 0) ∧ Row (sAll (rtsL rs k) k m (fl xs)) M zs ∧ Blk wr g 53 (u64s zs) ∧ Tn g w wr) (fun hv _ _ _ _ _ _ _ _ => (intOf hv).toNat)
 case atStart => exact ⟨0, N, xs, by omega, rfl, fun _ => by rw [HN.out]; rfl, fun e => by omega, hrow0, hblk, Tn.refl _ _⟩
 case round =>
  clear hrow0 hblk
  obtain ⟨m, h, zs, hm, rfl, Hh, Hh0, hrow, hblk, htn⟩ := hrel
  by_cases hmk : m < k
  ·have hh := Hh.out hmk
   obtain ⟨D, hD⟩ : ∃ D, D = 2 ^ m := ⟨_, rfl⟩
   have hh1 : 1 ≤ h := by rw [hh]; exact Nat.two_pow_pos _
   have hNB : N = h * D := by rw [HN.out, hh, hD, ← Nat.pow_add]; congr 1; omega
   have q2 : (N : Int) / (h : Int) = (D : Int) := by
    rw [hNB]
    have h9 : ((h * D : Nat) : Int) / (h : Int) = ((h * D / h : Nat) : Int) := (Int.natCast_ediv _ _).symm
    rw [h9, Nat.mul_div_cancel_left _ (by omega)]
   have q3 : (N : Int).tdiv (h : Int) = (D : Int) := by rw [Int.tdiv_eq_ediv_of_nonneg (by omega), q2]
   have hDN : D ≤ N := by rw [hNB]; exact Nat.le_mul_of_pos_left _ (by omega)
   have hdv := hi9 (show 2 ^ (k - 1) / h = D from by rw [← HN.out, hNB, Nat.mul_div_cancel_left _ (by omega)])
   obtain ⟨h2, hh2⟩ := nameIt (h / 2)
   have q4 : (h : Int) / 2 = (h2 : Int) := by omega
   have hlt2 : h2 < h := by omega
   have Hh2a : Hid (m + 1 < k → h2 = 2 ^ (k - 1 - (m + 1))) := fun hmk2 => by
    rw [hh2, hh, show k - 1 - m = k - 1 - (m + 1) + 1 from by omega, Nat.pow_succ]; omega
   have Hh2b : Hid (m + 1 = k → h2 = 0) := fun hmk2 => by
    rw [hh2, hh, show k - 1 - m = 0 from by omega]
   have hT : sAll (rtsL rs k) k (m + 1) (fl xs) = sLay h (rtsL rs k h) (sAll (rtsL rs k) k m (fl xs)) := by
    rw [hh]; rfl
   have HT := hi9 hT
   obtain ⟨S, hS⟩ : ∃ S, S = sAll (rtsL rs k) k m (fl xs) := ⟨_, rfl⟩
   rw [← hS] at hrow HT
   obtain ⟨T, hT2⟩ : ∃ T, T = sLay h (rtsL rs k h) S := ⟨_, rfl⟩
   have HT2 := hi9 hT2
   rw [← hT2] at HT
   have HNB := hi9 hNB
   have t1 : decide ((1 : Int) ≤ (h : Int)) = true := by simp; omega
   have hne : ¬ ((h : Int) = 0) := by omega
   have hne2 : ((h : Int) == 0) = false := by simp; omega
   have hhN : h ≤ N := by rw [hNB]; exact Nat.le_mul_of_pos_right _ (by rw [hD]; exact Nat.two_pow_pos _)
   clear hh hD hNB hh2 hS hT hT2 Hh Hh0
   go_wp2_with fail
   go_loopw [6, 7, 8, 9, 10, 11] (fun fv _ _ _ _ _ wr => ∃ (q f : Nat) (zs : List Nat), q ≤ D ∧ fv = .int .i64 f ∧ Hid (f = 2 * h * q) ∧ f ≤ M ∧ Mix S T M f h 0 zs ∧ Blk wr g 53 (u64s zs) ∧ Tn g w wr) (fun fv _ _ _ _ _ _ => M - (intOf fv).toNat)
   case atStart => exact ⟨0, 0, zs, by omega, rfl, rfl, by omega, Mix.start hrow, hblk, htn⟩
   case round =>
    clear hrow hblk htn
    obtain ⟨q, f, zs, hq, rfl, Hf, hfN, hmix, hblk, htn⟩ := hrel
    by_cases hlt : f < M
    ·have hqD : q < D := by
      rcases Nat.lt_or_ge q D with h9 | h9
      ·exact h9
      ·exfalso
       have e1 := Hf.out
       rw [HM.out, HNB.out] at hlt
       have e2 : 2 * h * D ≤ 2 * h * q := Nat.mul_le_mul_left _ h9
       rw [Nat.mul_assoc] at e2
       omega
     have hf2 : f + 2 * h ≤ M := by
      have e1 := Hf.out
      rw [HM.out]
      have e2 : 2 * h * (q + 1) ≤ 2 * h * D := Nat.mul_le_mul_left _ hqD
      rw [Nat.mul_succ, Nat.mul_assoc 2 h D, ← HNB.out] at e2
      omega
     have Hf2 : Hid (f + 2 * h = 2 * h * (q + 1)) := by
      have e1 := Hf.out
      show f + 2 * h = _
      rw [Nat.mul_succ]; omega
     obtain ⟨fh, hfh⟩ := nameIt (f + h)
     obtain ⟨hd, hhd⟩ := nameIt (2 * h)
     obtain ⟨f2, hff2⟩ := nameIt (f + hd)
     have e1 : (f : Int) + (h : Int) = (fh : Int) := by omega
     have e2 : 2 * (h : Int) = (hd : Int) := by omega
     have e3 : (f : Int) + (hd : Int) = (f2 : Int) := by omega
     have ew1 : IntKind.i64.wrap (fh : Int) = (fh : Int) := IntWalk.i64_in _ (by omega)
     have ew2 : IntKind.i64.wrap (hd : Int) = (hd : Int) := IntWalk.i64_in _ (by omega)
     have ew3 : IntKind.i64.wrap (f2 : Int) = (f2 : Int) := IntWalk.i64_in _ (by omega)
     have j2 : fh ≤ M := by omega
     have j3 : f2 ≤ M := by omega
     have j4 : ¬ (M = f) := by omega
     have j5 : ¬ (M = fh) := by omega
     have j6 : f ≤ fh := by omega
     have j7 : fh ≤ f2 := by omega
     have j8 : fh - f = h := by omega
     have j9 : f2 - fh = h := by omega
     have Hfh := hi9 hfh
     have Hff2 : Hid (f2 = f + 2 * h) := (by omega : f2 = f + 2 * h)
     clear hfh hhd hff2 hf2
     go_upto_region 7 with (fail)
     go_region_held3 (fun _ => True) (exact trivial) (fail)
     all_goals
      go_wp2_with fail
      go_loopw [9, 10, 11, 48] (fun _ _ _ iv wr => ∃ (i : Nat) (zs : List Nat), i ≤ h ∧ iv = .int .i64 i ∧ Mix S T M f h i zs ∧ Blk wr g 53 (u64s zs) ∧ Tn g w wr) (fun _ _ _ iv _ => h - (intOf iv).toNat)
      case atStart => exact ⟨0, zs, by omega, rfl, hmix, by first | exact hblk | exact hblk.drew, by first | exact htn | exact htn.drew⟩
      case round =>
       clear hmix hblk htn
       obtain ⟨i, zs, hi, rfl, hmix, hblk, htn⟩ := hrel
       by_cases hih : i < h
       ·have hfh := Hfh.out
        have hff2 := Hff2.out
        have hzl := hmix.1
        have hix1 : f + i < zs.length := by omega
        have hix2 : fh + i < zs.length := by omega
        obtain ⟨u, hu⟩ : ∃ u, u = zs[f + i] := ⟨_, rfl⟩
        obtain ⟨v, hv⟩ : ∃ v, v = zs[fh + i] := ⟨_, rfl⟩
        have cu := (hblk.cell (f + i)).trans (u64s_at hix1)
        have cv := (hblk.cell (fh + i)).trans (u64s_at hix2)
        rw [← hu] at cu
        rw [← hv] at cv
        have hup : u < 18446744069414584321 := by rw [hu]; exact p_lt zs hmix.2.1 _ _
        have hvp : v < 18446744069414584321 := by rw [hv]; exact p_lt zs hmix.2.1 _ _
        have eu : ph u = S (f + i) := by rw [hu]; exact hmix.old hix1 (by omega) (by omega) (by omega)
        have ev : ph v = S (f + h + i) := by rw [hv, show S (f + h + i) = S (fh + i) from by rw [hfh]]; exact hmix.old hix2 (by omega) (by omega) (by omega)
        have fu := hblk.frozen (f + i)
        obtain ⟨a, hae⟩ : ∃ a, a = (u + v) % 18446744069414584321 := ⟨_, rfl⟩
        obtain ⟨d, hde⟩ := nameIt ((u + 18446744069414584321 - v) % 18446744069414584321)
        have hap : a < 18446744069414584321 := by rw [hae]; exact Nat.mod_lt _ (by omega)
        have hdp : d < 18446744069414584321 := by rw [hde]; exact Nat.mod_lt _ (by omega)
        have hadd := fun W => fieldAdd_any u v hup hvp W
        have hsub := fun W => fieldSub_any u v hup hvp W
        rw [← hae] at hadd
        rw [← hde] at hsub
        have Hadd := hi9 hadd
        have Hsub := hi9 hsub
        have ea : ph a = S (f + i) + S (f + h + i) := by rw [hae, ph_mod, ph_add, eu, ev]
        have ed : ph d = S (f + i) - S (f + h + i) := by rw [hde, ph_sub hvp, eu, ev]
        obtain ⟨ix, hix⟩ : ∃ ix, ix = i * D := ⟨_, rfl⟩
        have hixN : ix < N := by
         rw [hix, HNB.out]
         exact Nat.mul_lt_mul_of_pos_right hih (by
          rcases Nat.eq_zero_or_pos D with h0 | h0
          ·exfalso; have := HNB.out; rw [h0] at this; omega
          ·exact h0)
        have e5 : (i : Int) * (D : Int) = (ix : Int) := by rw [hix]; simp
        have ew5 : IntKind.i64.wrap (ix : Int) = (ix : Int) := IntWalk.i64_in _ (by omega)
        have ixr : ix < rs.length := by rw [Hrl.out]; exact hixN
        obtain ⟨b, off, rfl, hbw, hbg, hx⟩ := (hrx.tn htn).at64 ixr
        have hrv : rs[ix] < 18446744069414584321 := Hrp.out _ (List.getElem_mem ixr)
        have ert : ph rs[ix] = rtsL rs k h i := by
         unfold rtsL
         rw [hdv.out, ← hix, List.getD_eq_getElem?_getD, List.getElem?_eq_getElem ixr]; rfl
        obtain ⟨r, hre⟩ : ∃ r, r = rs[ix] := ⟨_, rfl⟩
        rw [← hre] at hx hrv ert
        have hmul := fun W => fieldMul_any d r (by omega) (by omega) W
        obtain ⟨bv, hbe⟩ : ∃ bv, bv = d * r % 18446744069414584321 := ⟨_, rfl⟩
        rw [← hbe] at hmul
        have hbp : bv < 18446744069414584321 := by rw [hbe]; exact Nat.mod_lt _ (by omega)
        have eb : ph bv = (S (f + i) - S (f + h + i)) * rtsL rs k h i := by rw [hbe, ph_mod, ph_mul, ed, ert]
        have Hmul := hi9 hmul
        have hst := hmix.step hih (by omega) hap hbp (by rw [ea, HT2.out, Hf.out, sLay_low _ _ hih]) (by rw [eb, HT2.out, Hf.out, sLay_high _ _ hih])
        rw [← hfh] at hst
        have Hst := hi9 hst
        have Hzl := hi9 hzl
        have hne9 : ¬ (f + i = fh + i) := by omega
        have ji1 : i < M - f := by omega
        have ji2 : i < M - fh := by omega
        clear hst hmul hadd hsub hae hde hbe hre hix eu ev ea ed eb ert hu hv hfh hff2 hzl
        go_upto_region 13 with (go_at_call 107; (with_reducible refine (Hadd.out _).mono ?_); rintro e w' ⟨rfl, rfl⟩)
        have hb1 := hblk.set_ (f + i) (.int .u64 (a : Int))
        rw [u64s_set] at hb1
        have htn1 := htn.setCell (f + i) (.int .u64 (a : Int))
        obtain ⟨vv, cv1⟩ : ∃ vv, (wr.setCell ⟨g, f + i, none⟩ (.int .u64 (a : Int))).cell? ⟨g, fh + i, none⟩ = some vv := ⟨_, (hb1.cell (fh + i)).trans (u64s_at (by rw [List.length_set]; exact hix2))⟩
        have fv1 := hb1.frozen (fh + i)
        have hx1 : (wr.setCell ⟨g, f + i, none⟩ (.int .u64 (a : Int))).cell? ⟨b, off + ix, none⟩ = some (.int .u64 (r : Int)) := by rw [← hx]; exact World.cell?_setCell_far _ _ _ _ (Ne.symm hbg)
        obtain ⟨W1, hW1⟩ : ∃ W1, W1 = wr.setCell ⟨g, f + i, none⟩ (.int .u64 (a : Int)) := ⟨_, rfl⟩
        rw [← hW1] at hb1 htn1 cv1 fv1 hx1 ⊢
        have hne10 : ¬ (g = b) := fun e => hbg e.symm
        have hne11 : ¬ (b = g) := hbg
        clear hW1 hx cu cv fu
        go_region_held3 (fun W => W.cell? ⟨b, off + ix, none⟩ = some (.int .u64 (r : Int))) (go_keep) (first
         | (go_at_call 108; (with_reducible refine (Hsub.out _).mono ?_); rintro e w' ⟨rfl, rfl⟩)
         | (go_at_call 100; (with_reducible refine (Hmul.out _).mono ?_); rintro e w' ⟨rfl, rfl⟩))
        all_goals
         go_wp2_with fail
         go_roundw
         case rel =>
          have hb2 := hb1.set_ (fh + i) (.int .u64 (bv : Int))
          rw [u64s_set] at hb2
          have htn2 := htn1.setCell (fh + i) (.int .u64 (bv : Int))
          exact ⟨i + 1, _, by omega, by go_num, Hst.out, by first | exact hb2 | exact hb2.drew, by first | exact htn2 | exact htn2.drew⟩
         case measure => simp [intOf]; omega
       ·have hih2 : i = h := by omega
        have hmix2 : Mix S T M f2 h 0 zs := by
         rw [Hff2.out]; rw [hih2] at hmix; exact hmix.next
        have hh9 : h ≤ i := by omega
        clear hih2 hmix
        go_wp2_with fail
        go_roundw
        case rel => exact ⟨q + 1, f2, zs, by omega, rfl, by rw [Hff2.out, Hf2.out]; exact rfl, j3, hmix2, hblk, htn⟩
        case measure => simp [intOf]; omega
    ·have hfM : f = M := by omega
     rw [hfM] at hmix
     have hrow := hmix.done
     rw [← HT.out] at hrow
     have hMf : M ≤ f := by omega
     clear hfM hmix
     go_wp2_with fail
     go_roundw
     case rel => exact ⟨m + 1, h2, zs, by omega, rfl, Hh2a, Hh2b, hrow, hblk, htn⟩
     case measure => simp [intOf]; omega
  ·have hm2 : m = k := by omega
   have hh := Hh0.out hm2
   subst hh
   have t1 : decide ((1 : Int) ≤ 0) = false := by decide
   have Hm2 := hi9 hm2
   clear hm2
   have h9 := hrow
   rw [Hm2.out] at h9
   have H9 := hi9 h9
   clear h9 hrow
   go_wp2_with fail
   go_end0
   rw [Hk9.out]
   exact ⟨rfl, zs, H9.out, hblk, htn⟩
end
section
open Go.RowKit
set_option maxHeartbeats 3200000 in
set_option maxRecDepth 100000 in
theorem gather_any (g : Nat) (xs rs : List Nat) (k : Nat) (A : Option Addr) (c : Nat) (w : World) (hblk : Blk w g 53 (u64s xs)) (hrx : Rx w g A (u64s rs)) (hk : 1 ≤ k) (hk2 : k ≤ 40) (hxl : xs.length = 2 ^ k) (hrl : rs.length = 2 ^ (k - 1)) (hxp : ∀ v ∈ xs, v < 18446744069414584321) (hrp : ∀ v ∈ rs, v < 18446744069414584321) :
  Calls Tryz.prog 101 #[.slice (some ⟨g, 0, none⟩) xs.length xs.length, .slice A rs.length c] w fun e w' => ∃ zs, e = .returned (.tuple #[]) ∧ Row (gAll (rtsL rs k) k (fl xs)) (2 ^ k) zs ∧ Blk w' g 53 (u64s zs) ∧ Tn g w w' := by
 obtain ⟨N, hN⟩ : ∃ N, N = 2 ^ (k - 1) := ⟨_, rfl⟩
 have hk9 : 2 ^ k = 2 * N := by rw [hN, ← Nat.pow_succ']; congr 1; omega
 have hNb : N ≤ 1099511627776 := by rw [hN, show (1099511627776 : Nat) = 2 ^ 40 from rfl]; exact Nat.pow_le_pow_right (by omega) (by omega)
 have hN0 : 1 ≤ N := by rw [hN]; exact Nat.two_pow_pos _
 obtain ⟨M, hM⟩ : ∃ M, M = 2 * N := ⟨_, rfl⟩
 rw [← hM] at hk9
 have hrow0 : Row (gAll (rtsL rs k) 0 (fl xs)) M xs := ⟨hxl.trans hk9, hxp, fun j hj => by
  show ph xs[j] = ph (xs.getD j 0)
  rw [List.getD_eq_getElem?_getD, List.getElem?_eq_getElem hj]; rfl⟩
 rw [← hN] at hrl
 have hxl2 : xs.length = M := hxl.trans hk9
 have HN := hi9 hN
 have Hk9 := hi9 hk9
 rw [hxl2, hrl]
 have hgw := hblk.lt
 have q1 : (M : Int) / 2 = (N : Int) := by omega
 have HM := hi9 hM
 have hMb : M ≤ 2199023255552 := by omega
 have Hrp : Hid (∀ v ∈ rs, v < 18446744069414584321) := hrp
 have Hrl := hi9 hrl
 clear hN hk9 hxl hxl2 hrp hrl hM
 go_enter Tryz.func101, Tryz.ntmps101
 go_wp2_with fail
 go_loopw [4, 5, 6, 7, 8, 9, 10, 11] (fun hv _ _ _ _ _ _ _ wr => ∃ (m h : Nat) (zs : List Nat), m ≤ k ∧ hv = .int .i64 h ∧ Hid (h = 2 ^ m) ∧ 1 ≤ h ∧ Row (gAll (rtsL rs k) m (fl xs)) M zs ∧ Blk wr g 53 (u64s zs) ∧ Tn g w wr) (fun hv _ _ _ _ _ _ _ _ => M - (intOf hv).toNat)
 case atStart => exact ⟨0, 1, xs, by omega, rfl, rfl, by omega, hrow0, hblk, Tn.refl _ _⟩
 case round =>
  clear hrow0 hblk
  obtain ⟨m, h, zs, hm, rfl, Hh, hh1, hrow, hblk, htn⟩ := hrel
  by_cases hmk : m < k
  ·have hh := Hh.out
   obtain ⟨D, hD⟩ : ∃ D, D = 2 ^ (k - 1 - m) := ⟨_, rfl⟩
   have hNB : N = h * D := by rw [HN.out, hh, hD, ← Nat.pow_add]; congr 1; omega
   have q2 : (N : Int) / (h : Int) = (D : Int) := by
    rw [hNB]
    have h9 : ((h * D : Nat) : Int) / (h : Int) = ((h * D / h : Nat) : Int) := (Int.natCast_ediv _ _).symm
    rw [h9, Nat.mul_div_cancel_left _ (by omega)]
   have q3 : (N : Int).tdiv (h : Int) = (D : Int) := by rw [Int.tdiv_eq_ediv_of_nonneg (by omega), q2]
   have hDN : D ≤ N := by rw [hNB]; exact Nat.le_mul_of_pos_left _ (by omega)
   have hdv := hi9 (show 2 ^ (k - 1) / h = D from by rw [← HN.out, hNB, Nat.mul_div_cancel_left _ (by omega)])
   have hD1 : 1 ≤ D := by rw [hD]; exact Nat.two_pow_pos _
   have hhN : h ≤ N := by rw [hNB]; exact Nat.le_mul_of_pos_right _ hD1
   obtain ⟨h2, hh2⟩ := nameIt (2 * h)
   have q4 : (h : Int) * 2 = (h2 : Int) := by omega
   have hlt2 : h < h2 := by omega
   have hMN := HM.out
   have hhM : h < M := by omega
   have Hh2a : Hid (h2 = 2 ^ (m + 1)) := by
    show h2 = 2 ^ (m + 1)
    rw [hh2, hh, Nat.pow_succ]; omega
   have hh21 : 1 ≤ h2 := by omega
   have hT : gAll (rtsL rs k) (m + 1) (fl xs) = gLay h (rtsL rs k h) (gAll (rtsL rs k) m (fl xs)) := by
    rw [hh]; rfl
   have HT := hi9 hT
   obtain ⟨S, hS⟩ : ∃ S, S = gAll (rtsL rs k) m (fl xs) := ⟨_, rfl⟩
   rw [← hS] at hrow HT
   obtain ⟨T, hT2⟩ : ∃ T, T = gLay h (rtsL rs k h) S := ⟨_, rfl⟩
   have HT2 := hi9 hT2
   rw [← hT2] at HT
   have HNB := hi9 hNB
   have hne : ¬ ((h : Int) = 0) := by omega
   have hne2 : ((h : Int) == 0) = false := by simp; omega
   clear hh hD hNB hh2 hS hT hT2 Hh hMN
   go_wp2_with fail
   go_loopw [6, 7, 8, 9, 10, 11] (fun fv _ _ _ _ _ wr => ∃ (q f : Nat) (zs : List Nat), q ≤ D ∧ fv = .int .i64 f ∧ Hid (f = 2 * h * q) ∧ f ≤ M ∧ Mix S T M f h 0 zs ∧ Blk wr g 53 (u64s zs) ∧ Tn g w wr) (fun fv _ _ _ _ _ _ => M - (intOf fv).toNat)
   case atStart => exact ⟨0, 0, zs, by omega, rfl, rfl, by omega, Mix.start hrow, hblk, htn⟩
   case round =>
    clear hrow hblk htn
    obtain ⟨q, f, zs, hq, rfl, Hf, hfN, hmix, hblk, htn⟩ := hrel
    by_cases hlt : f < M
    ·have hqD : q < D := by
      rcases Nat.lt_or_ge q D with h9 | h9
      ·exact h9
      ·exfalso
       have e1 := Hf.out
       rw [HM.out, HNB.out] at hlt
       have e2 : 2 * h * D ≤ 2 * h * q := Nat.mul_le_mul_left _ h9
       rw [Nat.mul_assoc] at e2
       omega
     have hf2 : f + 2 * h ≤ M := by
      have e1 := Hf.out
      rw [HM.out]
      have e2 : 2 * h * (q + 1) ≤ 2 * h * D := Nat.mul_le_mul_left _ hqD
      rw [Nat.mul_succ, Nat.mul_assoc 2 h D, ← HNB.out] at e2
      omega
     have Hf2 : Hid (f + 2 * h = 2 * h * (q + 1)) := by
      have e1 := Hf.out
      show f + 2 * h = _
      rw [Nat.mul_succ]; omega
     obtain ⟨fh, hfh⟩ := nameIt (f + h)
     obtain ⟨hd, hhd⟩ := nameIt (2 * h)
     obtain ⟨f2, hff2⟩ := nameIt (f + hd)
     have e1 : (f : Int) + (h : Int) = (fh : Int) := by omega
     have e2 : 2 * (h : Int) = (hd : Int) := by omega
     have e3 : (f : Int) + (hd : Int) = (f2 : Int) := by omega
     have ew1 : IntKind.i64.wrap (fh : Int) = (fh : Int) := IntWalk.i64_in _ (by omega)
     have ew2 : IntKind.i64.wrap (hd : Int) = (hd : Int) := IntWalk.i64_in _ (by omega)
     have ew3 : IntKind.i64.wrap (f2 : Int) = (f2 : Int) := IntWalk.i64_in _ (by omega)
     have j2 : fh ≤ M := by omega
     have j3 : f2 ≤ M := by omega
     have j4 : ¬ (M = f) := by omega
     have j5 : ¬ (M = fh) := by omega
     have j6 : f ≤ fh := by omega
     have j7 : fh ≤ f2 := by omega
     have j8 : fh - f = h := by omega
     have j9 : f2 - fh = h := by omega
     have Hfh := hi9 hfh
     have Hff2 : Hid (f2 = f + 2 * h) := (by omega : f2 = f + 2 * h)
     clear hfh hhd hff2 hf2
     go_upto_region 7 with (fail)
     go_region_held3 (fun _ => True) (exact trivial) (fail)
     all_goals
      go_wp2_with fail
      go_loopw [9, 10, 11, 47] (fun _ _ _ iv wr => ∃ (i : Nat) (zs : List Nat), i ≤ h ∧ iv = .int .i64 i ∧ Mix S T M f h i zs ∧ Blk wr g 53 (u64s zs) ∧ Tn g w wr) (fun _ _ _ iv _ => h - (intOf iv).toNat)
      case atStart => exact ⟨0, zs, by omega, rfl, hmix, by first | exact hblk | exact hblk.drew, by first | exact htn | exact htn.drew⟩
      case round =>
       clear hmix hblk htn
       obtain ⟨i, zs, hi, rfl, hmix, hblk, htn⟩ := hrel
       by_cases hih : i < h
       ·have hfh := Hfh.out
        have hff2 := Hff2.out
        have hzl := hmix.1
        have hix1 : f + i < zs.length := by omega
        have hix2 : fh + i < zs.length := by omega
        obtain ⟨u, hu⟩ : ∃ u, u = zs[f + i] := ⟨_, rfl⟩
        obtain ⟨v0, hv⟩ : ∃ v0, v0 = zs[fh + i] := ⟨_, rfl⟩
        have cu := (hblk.cell (f + i)).trans (u64s_at hix1)
        have cv := (hblk.cell (fh + i)).trans (u64s_at hix2)
        rw [← hu] at cu
        rw [← hv] at cv
        have hup : u < 18446744069414584321 := by rw [hu]; exact p_lt zs hmix.2.1 _ _
        have hvp : v0 < 18446744069414584321 := by rw [hv]; exact p_lt zs hmix.2.1 _ _
        have eu : ph u = S (f + i) := by rw [hu]; exact hmix.old hix1 (by omega) (by omega) (by omega)
        have ev : ph v0 = S (f + h + i) := by rw [hv, show S (f + h + i) = S (fh + i) from by rw [hfh]]; exact hmix.old hix2 (by omega) (by omega) (by omega)
        have fu := hblk.frozen (f + i)
        obtain ⟨ix, hix⟩ : ∃ ix, ix = i * D := ⟨_, rfl⟩
        have hixN : ix < N := by
         rw [hix, HNB.out]
         exact Nat.mul_lt_mul_of_pos_right hih hD1
        have e5 : (i : Int) * (D : Int) = (ix : Int) := by rw [hix]; simp
        have ew5 : IntKind.i64.wrap (ix : Int) = (ix : Int) := IntWalk.i64_in _ (by omega)
        have ixr : ix < rs.length := by rw [Hrl.out]; exact hixN
        obtain ⟨b, off, rfl, hbw, hbg, hx⟩ := (hrx.tn htn).at64 ixr
        have hrv : rs[ix] < 18446744069414584321 := Hrp.out _ (List.getElem_mem ixr)
        have ert : ph rs[ix] = rtsL rs k h i := by
         unfold rtsL
         rw [hdv.out, ← hix, List.getD_eq_getElem?_getD, List.getElem?_eq_getElem ixr]; rfl
        obtain ⟨r, hre⟩ : ∃ r, r = rs[ix] := ⟨_, rfl⟩
        rw [← hre] at hx hrv ert
        have hmul := fun W => fieldMul_any v0 r (by omega) (by omega) W
        obtain ⟨v, hve⟩ : ∃ v, v = v0 * r % 18446744069414584321 := ⟨_, rfl⟩
        rw [← hve] at hmul
        have hvp2 : v < 18446744069414584321 := by rw [hve]; exact Nat.mod_lt _ (by omega)
        have ev2 : ph v = S (f + h + i) * rtsL rs k h i := by rw [hve, ph_mod, ph_mul, ev, ert]
        obtain ⟨a, hae⟩ : ∃ a, a = (u + v) % 18446744069414584321 := ⟨_, rfl⟩
        obtain ⟨d, hde⟩ := nameIt ((u + 18446744069414584321 - v) % 18446744069414584321)
        have hap : a < 18446744069414584321 := by rw [hae]; exact Nat.mod_lt _ (by omega)
        have hdp : d < 18446744069414584321 := by rw [hde]; exact Nat.mod_lt _ (by omega)
        have hadd := fun W => fieldAdd_any u v hup hvp2 W
        have hsub := fun W => fieldSub_any u v hup hvp2 W
        rw [← hae] at hadd
        rw [← hde] at hsub
        have Hadd := hi9 hadd
        have Hsub := hi9 hsub
        have ea : ph a = S (f + i) + S (f + h + i) * rtsL rs k h i := by rw [hae, ph_mod, ph_add, eu, ev2]
        have ed : ph d = S (f + i) - S (f + h + i) * rtsL rs k h i := by rw [hde, ph_sub hvp2, eu, ev2]
        have Hmul := hi9 hmul
        have hst := hmix.step hih (by omega) hap hdp (by rw [ea, HT2.out, Hf.out, gLay_low _ _ hih]) (by rw [ed, HT2.out, Hf.out, gLay_high _ _ hih])
        rw [← hfh] at hst
        have Hst := hi9 hst
        have Hzl := hi9 hzl
        have hne9 : ¬ (f + i = fh + i) := by omega
        have hne8 : ¬ (fh + i = f + i) := by omega
        have ji1 : i < M - f := by omega
        have ji2 : i < M - fh := by omega
        have hne10 : ¬ (g = b) := fun e => hbg e.symm
        have hne11 : ¬ (b = g) := hbg
        have cvv := hi9 (show ∃ vv, (wr.setCell ⟨g, f + i, none⟩ (.int .u64 (a : Int))).cell? ⟨g, fh + i, none⟩ = some vv from ⟨_, ((hblk.set_ (f + i) (.int .u64 (a : Int))).cell (fh + i)).trans (by rw [u64s_set]; exact u64s_at (by rw [List.length_set]; exact hix2))⟩)
        clear hst hmul hadd hsub hae hde hve hre hix eu ev ev2 ea ed ert hu hv hfh hff2 hzl
        go_upto_region 11 with (fail)
        go_region_held3 (fun W => W.cell? ⟨g, fh + i, none⟩ = some (.int .u64 (v0 : Int)) ∧ W.cell? ⟨b, off + ix, none⟩ = some (.int .u64 (r : Int))) (go_keep) (first
         | (go_at_call 100; (with_reducible refine (Hmul.out _).mono ?_); rintro e w' ⟨rfl, rfl⟩))
        all_goals
         go_upto_region 13 with (go_at_call 107; (with_reducible refine (Hadd.out _).mono ?_); rintro e w' ⟨rfl, rfl⟩)
         have hb1 : Blk (wr.setCell ⟨g, f + i, none⟩ (.int .u64 (a : Int))).drew g 53 (u64s (zs.set (f + i) a)) := by
          have := (hblk.set_ (f + i) (.int .u64 (a : Int))).drew
          rwa [u64s_set] at this
         have htn1 := (htn.setCell (f + i) (.int .u64 (a : Int))).drew
         obtain ⟨vv, cv1⟩ : ∃ vv, (wr.setCell ⟨g, f + i, none⟩ (.int .u64 (a : Int))).drew.cell? ⟨g, fh + i, none⟩ = some vv := ⟨_, (hb1.cell (fh + i)).trans (u64s_at (by rw [List.length_set]; exact hix2))⟩
         have fv1 := hb1.frozen (fh + i)
         obtain ⟨W1, hW1⟩ : ∃ W1, W1 = (wr.setCell ⟨g, f + i, none⟩ (.int .u64 (a : Int))).drew := ⟨_, rfl⟩
         rw [← hW1] at hb1 htn1 cv1 fv1 ⊢
         clear hW1 hx cu cv fu cvv
         go_wp2_with (go_at_call 108; (with_reducible refine (Hsub.out _).mono ?_); rintro e w' ⟨rfl, rfl⟩)
         go_roundw
         case rel =>
          have hb2 := hb1.set_ (fh + i) (.int .u64 (d : Int))
          rw [u64s_set] at hb2
          have htn2 := htn1.setCell (fh + i) (.int .u64 (d : Int))
          exact ⟨i + 1, _, by omega, by go_num, Hst.out, by first | exact hb2 | exact hb2.drew, by first | exact htn2 | exact htn2.drew⟩
         case measure => simp [intOf]; omega
       ·have hih2 : i = h := by omega
        have hmix2 : Mix S T M f2 h 0 zs := by
         rw [Hff2.out]; rw [hih2] at hmix; exact hmix.next
        have hh9 : h ≤ i := by omega
        clear hih2 hmix
        go_wp2_with fail
        go_roundw
        case rel => exact ⟨q + 1, f2, zs, by omega, rfl, by rw [Hff2.out, Hf2.out]; exact rfl, j3, hmix2, hblk, htn⟩
        case measure => simp [intOf]; omega
    ·have hfM : f = M := by omega
     rw [hfM] at hmix
     have hrow := hmix.done
     rw [← HT.out] at hrow
     have hMf : M ≤ f := by omega
     clear hfM hmix
     go_wp2_with fail
     go_roundw
     case rel => exact ⟨m + 1, h2, zs, by omega, rfl, Hh2a, hh21, hrow, hblk, htn⟩
     case measure => simp [intOf]; omega
  ·have hm2 : m = k := by omega
   have hh := Hh.out
   rw [hm2, Hk9.out] at hh
   have t1 : M ≤ h := by omega
   have h9 := hrow
   rw [hm2] at h9
   have H9 := hi9 h9
   clear h9 hrow hm2 hh
   go_wp2_with fail
   go_end0
   rw [Hk9.out]
   first
    | exact ⟨rfl, zs, H9.out, hblk, htn⟩
    | exact ⟨zs, rfl, H9.out, hblk, htn⟩
end
section
open Go.RowKit
theorem sLay_rt {z9 : Nat} {h : Nat} (hh : 0 < h) (rt ru x : Nat → Fin z9) (e : ∀ i, i < h → rt i = ru i) : sLay h rt x = sLay h ru x := by
 funext j
 unfold sLay
 split
 ·rfl
 ·rw [e _ (by have := Nat.mod_lt j (show 0 < 2 * h by omega); omega)]
theorem gLay_rt {z9 : Nat} {h : Nat} (hh : 0 < h) (rt ru x : Nat → Fin z9) (e : ∀ i, i < h → rt i = ru i) : gLay h rt x = gLay h ru x := by
 funext j
 unfold gLay
 split
 ·rename_i hj; rw [e _ hj]
 ·rw [e _ (by have := Nat.mod_lt j (show 0 < 2 * h by omega); omega)]
theorem sAll_rt {z9 : Nat} {k : Nat} (rts rus : Nat → Nat → Fin z9) (x : Nat → Fin z9) (e : ∀ j i, j < k → i < 2 ^ j → rts (2 ^ j) i = rus (2 ^ j) i) (m : Nat) (hm : m ≤ k) : sAll rts k m x = sAll rus k m x := by
 induction m with
 | zero => rfl
 | succ m ih =>
  show sLay _ _ (sAll rts k m x) = sLay _ _ (sAll rus k m x)
  rw [ih (by omega)]
  exact sLay_rt (Nat.two_pow_pos _) _ _ _ fun i hi => e _ i (by omega) hi
theorem gAll_rt {z9 : Nat} {k : Nat} (rts rus : Nat → Nat → Fin z9) (x : Nat → Fin z9) (e : ∀ j i, j < k → i < 2 ^ j → rts (2 ^ j) i = rus (2 ^ j) i) (m : Nat) (hm : m ≤ k) : gAll rts m x = gAll rus m x := by
 induction m with
 | zero => rfl
 | succ m ih =>
  show gLay _ _ (gAll rts m x) = gLay _ _ (gAll rus m x)
  rw [ih (by omega)]
  exact gLay_rt (Nat.two_pow_pos _) _ _ _ fun i hi => e _ i (by omega) hi
theorem rtsL_of {rs : List Nat} {k r e : Nat} (hr : r = 7 ^ e % 18446744069414584321) (hl : rs.length = 2 ^ (k - 1)) (hz : ∀ i (hi : i < rs.length), rs[i] = r ^ i % 18446744069414584321) : ∀ j i, j < k → i < 2 ^ j → rtsL rs k (2 ^ j) i = rtsOf (ph 7 ^ e) k (2 ^ j) i := by
 intro j i hj hi
 unfold rtsL rtsOf
 have hix : i * (2 ^ (k - 1) / 2 ^ j) < rs.length := by
  rw [hl, half_div hj]
  calc i * 2 ^ (k - 1 - j) < 2 ^ j * 2 ^ (k - 1 - j) := Nat.mul_lt_mul_of_pos_right hi (Nat.two_pow_pos _)
   _ = 2 ^ (k - 1) := by rw [← Nat.pow_add]; congr 1; omega
 rw [List.getD_eq_getElem?_getD, List.getElem?_eq_getElem hix]
 show ph rs[i * (2 ^ (k - 1) / 2 ^ j)] = _
 rw [hz _ hix, ph_mod, ph_pow, hr, ph_mod, ph_pow]
theorem fl_pad (xs : List Nat) (m : Nat) : fl (xs ++ List.replicate m 0) = fl xs := by
 funext i
 unfold fl
 congr 1
 rw [List.getD_eq_getElem?_getD, List.getD_eq_getElem?_getD]
 by_cases h : i < xs.length
 ·rw [List.getElem?_append_left h]
 ·rw [List.getElem?_append_right (by omega), List.getElem?_eq_none (l := xs) (by omega), List.getElem?_replicate]
  split <;> rfl
theorem rootE_lt (k : Nat) : rootE k < 18446744073709551616 := by
 unfold rootE
 exact Nat.lt_of_le_of_lt (Nat.div_le_self _ _) (by omega)
theorem pad_lt {ds : List Nat} (h : ∀ v ∈ ds, v ≤ 65535) (m : Nat) : ∀ v ∈ ds ++ List.replicate m 0, v < 18446744069414584321 := fun v hv => by
 rcases List.mem_append.1 hv with hv | hv
 ·have := h v hv; omega
 ·rw [(List.mem_replicate.1 hv).2]; omega
theorem val_addP (b : Nat) (xs ys : List Nat) : val b (addP xs ys) = val b xs + val b ys := by
 induction xs generalizing ys with
 | nil => simp [addP, val]
 | cons x xs ih => cases ys with
  | nil => simp [addP, val]
  | cons y ys => simp only [addP, val, ih, Nat.mul_add]; omega
theorem val_mapP (b x : Nat) (ys : List Nat) : val b (ys.map (x * ·)) = x * val b ys := by
 induction ys with
 | nil => simp [val]
 | cons y ys ih => simp only [List.map_cons, val, ih, Nat.mul_add]; rw [Nat.mul_left_comm]
theorem val_mulL (b : Nat) (xs ys : List Nat) : val b (mulL xs ys) = val b xs * val b ys := by
 induction xs with
 | nil => rw [mulL, val_zeros]; simp [val]
 | cons x xs ih => simp only [mulL, val_addP, val_mapP, val, ih, Nat.add_mul]; rw [Nat.zero_add, Nat.mul_assoc]
def Prod (S T : Nat → FP) (n i : Nat) (zs : List Nat) : Prop :=
 zs.length = n ∧ (∀ v ∈ zs, v < 18446744069414584321) ∧ ∀ j (hj : j < zs.length), ph zs[j] = if j < i then S j * T j else S j
theorem Prod.start {S T : Nat → FP} {n : Nat} {zs : List Nat} (h : Row S n zs) : Prod S T n 0 zs := ⟨h.1, h.2.1, fun j hj => by rw [if_neg (by omega)]; exact h.2.2 j hj⟩
theorem Prod.step {S T : Nat → FP} {n i a : Nat} {zs : List Nat} (h : Prod S T n i zs) (ha : a < 18446744069414584321) (ea : ph a = S i * T i) : Prod S T n (i + 1) (zs.set i a) := by
 refine ⟨by simpa using h.1, fun v hv => ?_, fun j hj => ?_⟩
 ·rcases List.mem_or_eq_of_mem_set hv with hv | rfl
  ·exact h.2.1 v hv
  ·exact ha
 ·rw [List.getElem_set]
  split
  ·rename_i e; subst e; rw [if_pos (by omega)]; exact ea
  ·rw [h.2.2 j (by simpa using hj)]
   by_cases h1 : j < i
   ·rw [if_pos h1, if_pos (by omega)]
   ·rw [if_neg h1, if_neg (by omega)]
theorem Prod.done {S T : Nat → FP} {n : Nat} {zs : List Nat} (h : Prod S T n n zs) : Row (fun j => if j < n then S j * T j else 0) n zs := ⟨h.1, h.2.1, fun j hj => by
 have h1 := h.1
 rw [h.2.2 j hj, if_pos (by omega)]
 show _ = if j < n then S j * T j else 0
 rw [if_pos (by omega)]⟩
theorem fl_row {S : Nat → FP} {n : Nat} {zs : List Nat} (h : Row S n zs) : ∀ j, j < n → fl zs j = S j := fun j hj => by
 have hj2 : j < zs.length := by rw [h.1]; exact hj
 rw [← h.2.2 j hj2]
 unfold fl
 rw [List.getD_eq_getElem?_getD, List.getElem?_eq_getElem hj2]; rfl
end
section
open Go.RowKit
set_option maxHeartbeats 3200000 in
set_option maxRecDepth 100000 in
theorem byTransform_any (A A2 : Option Addr) (c c2 : Nat) (us vs : List Nat) (w : World) (B : Nat) (hr : Rd w B A (u64s us)) (hr2 : Rd w B A2 (u64s vs)) (hB : B ≤ w.heap.size) (hd : Dig 18446744073709551616 us) (hd2 : Dig 18446744073709551616 vs) (h1 : 1 ≤ us.length + vs.length) (hm : us.length + vs.length ≤ 536870912) :
  Calls Tryz.prog 83 #[.slice A us.length c, .slice A2 vs.length c2] w fun e w' => Words w w' (us.length + vs.length) (val 18446744073709551616 us * val 18446744073709551616 vs) e := by
 have HP := hi9 (prod_lt hd hd2 (by omega))
 go_enter Tryz.func83, Tryz.ntmps83
 go_wp2_with fail
 go_loop [5] (fun sv => ∃ k s : Nat, sv = .int .i64 s ∧ Hid (s = 2 ^ k) ∧ 1 ≤ s ∧ (s = 1 ∨ s < 8 * (us.length + vs.length))) (fun sv => 4 * (us.length + vs.length) - (intOf sv).toNat)
 case atStart => exact ⟨0, 1, rfl, rfl, by omega, Or.inl rfl⟩
 case round =>
  obtain ⟨k, s, rfl, Hs, hs1, hs8⟩ := hrel
  by_cases hlt : s < 4 * (us.length + vs.length)
  ·have t1 : decide ((s : Int) < 4 * ((us.length : Int) + (vs.length : Int))) = true := by simp; omega
   go_wp2_with fail
   go_round
   case rel => exact ⟨k + 1, 2 * s, by go_num, by show 2 * s = _; rw [Nat.pow_succ, ← Hs.out]; omega, by omega, Or.inr (by omega)⟩
   case measure => simp [intOf]; omega
  ·have t1 : decide ((s : Int) < 4 * ((us.length : Int) + (vs.length : Int))) = false := by simp; omega
   have hs32 : s < 4294967296 := by omega
   have hs4 : 4 ≤ s := by omega
   have hk32 : k ≤ 32 := by
    rcases Nat.lt_or_ge 32 k with h9 | h9
    ·exfalso
     have := Nat.pow_le_pow_right (show 0 < 2 by omega) h9
     rw [← Hs.out] at this
     have e : (2 : Nat) ^ (32 + 1) = 8589934592 := rfl
     omega
    ·exact h9
   have hk1 : 1 ≤ k := by
    rcases Nat.eq_zero_or_pos k with h9 | h9
    ·exfalso; have := Hs.out; rw [h9] at this; omega
    ·exact h9
   obtain ⟨h, hh⟩ : ∃ h, h = 2 ^ (k - 1) := ⟨_, rfl⟩
   have hsh : s = 2 * h := by rw [Hs.out, hh, ← Nat.pow_succ']; congr 1; omega
   have hh1 : 1 ≤ h := by omega
   have hhb : h ≤ 4294967296 := by omega
   have Hh := hi9 hh
   have Hsh := hi9 hsh
   clear hh hsh hs8
   obtain ⟨E, hE⟩ : ∃ E, E = rootE k := ⟨_, rfl⟩
   have hEb : E < 18446744073709551616 := by rw [hE]; exact rootE_lt k
   have hE2 : E = 18446744069414584320 / s := by rw [hE, Hs.out]; rfl
   have hEp : E ≤ 18446744069414584320 := by rw [hE2]; exact Nat.div_le_self _ _
   have q1 : (18446744069414584320 : Int) / (s : Int) = (E : Int) := by rw [hE2]; exact (Int.natCast_ediv _ _).symm
   have q1t : (18446744069414584320 : Int).tdiv (s : Int) = (E : Int) := by rw [Int.tdiv_eq_ediv_of_nonneg (by omega), q1]
   obtain ⟨E2, hE2'⟩ := nameIt (18446744069414584320 - E)
   have q2 : (18446744069414584320 : Int) - (E : Int) = (E2 : Int) := by omega
   have HE := hi9 hE
   have HE2 : Hid (E2 = 18446744069414584320 - rootE k) := by show E2 = _; rw [← hE]; exact hE2'
   have hE2b : E2 < 18446744073709551616 := by omega
   have hne : ¬ ((s : Int) = 0) := by omega
   have hne2 : ((s : Int) == 0) = false := by simp; omega
   clear hE hE2 hE2'
   go_wp2_with fail
   refine (fieldPow_any 7 E (by omega) hEb _).mono ?_
   rintro e w0 ⟨r1, rfl, hr1, rfl⟩
   have hr1p : r1 < 18446744069414584321 := by rw [hr1]; exact Nat.mod_lt _ (by omega)
   have Hr1 := hi9 hr1
   clear hr1
   go_wp2_with fail
   refine (rootsOf_any s h r1 Hsh.out hh1 hr1p (by omega) _).mono ?_
   rintro e w1 ⟨rs, gr, rfl, hrl, hrp, hrz, hgr, hbr, hb1⟩
   have Hrl := hi9 hrl
   have Hrz := hi9 hrz
   have Hrp : Hid (∀ v ∈ rs, v < 18446744069414584321) := hrp
   clear hrl hrz hrp
   go_wp2_with fail
   refine (digitsOf_any A c us s w1 B (hr.below (hb1.mono hB)) (Nat.le_trans hB hb1.size) hd (by omega) (by omega)).mono ?_
   rintro e w2 ⟨gx, rfl, hgx, hbx, hb2⟩
   go_wp2_with fail
   have hb12 := hb1.trans (hb2.mono hb1.size)
   refine (digitsOf_any A2 c2 vs s w2 B (hr2.below (hb12.mono hB)) (Nat.le_trans hB hb12.size) hd2 (by omega) (by omega)).mono ?_
   rintro e w3 ⟨gy, rfl, hgy, hby, hb3⟩
   have l1 := hbr.lt
   have l2 := hbx.lt
   have n1 : gr ≠ gx := by omega
   have n2 : gr ≠ gy := by omega
   have n3 : gx ≠ gy := by omega
   have hgx0 : w.heap.size ≤ gx := by have := hb1.size; omega
   have hgy0 : w.heap.size ≤ gy := by have := hb12.size; omega
   have hB3 := hb12.trans (hb3.mono hb12.size)
   have hbr3 := (hbr.below hb2 l1).below hb3 (by omega)
   have hbx3 := hbx.below hb3 l2
   have hdx := digs_le us
   have hdy := digs_le vs
   have lx := digs_length us
   have ly := digs_length vs
   obtain ⟨dx, hdxe⟩ : ∃ dx, dx = digs us := ⟨_, rfl⟩
   obtain ⟨dy, hdye⟩ : ∃ dy, dy = digs vs := ⟨_, rfl⟩
   have vx := digs_val us hd
   have vy := digs_val vs hd2
   rw [← hdxe] at hbx3 hdx lx vx
   rw [← hdye] at hby hdy ly vy
   have plx : (dx ++ List.replicate (s - 4 * us.length) 0).length = s := by rw [List.length_append, lx, List.length_replicate]; omega
   have ply : (dy ++ List.replicate (s - 4 * vs.length) 0).length = s := by rw [List.length_append, ly, List.length_replicate]; omega
   have Hsx := scatter_any gx _ rs k (some ⟨gr, 0, none⟩) rs.length w3 hbx3 (rx_whole hbr3 n1) hk1 (by omega) (by rw [plx]; exact Hs.out) (by rw [Hrl.out]; exact Hh.out) (pad_lt hdx _) Hrp.out
   rw [plx] at Hsx
   have Hdx : Hid (∀ v ∈ dx, v ≤ 65535) := hdx
   have Hdy : Hid (∀ v ∈ dy, v ≤ 65535) := hdy
   have Hlx := hi9 lx
   have Hly := hi9 ly
   have Hvx := hi9 vx
   have Hvy := hi9 vy
   have Hply := hi9 ply
   clear hdx hdy lx ly vx vy plx ply hdxe hdye hbx hbr hb1 hb2 hb3 hb12 l1 l2 hgx hgy hgr
   go_wp2_with fail
   refine Hsx.mono ?_
   rintro e w4 ⟨x2, rfl, hrowx, hbx4, htn4⟩
   have hbr4 := hbr3.tn htn4 n1
   have hby4 := hby.tn htn4 n3.symm
   have hB4 := hB3.trans (htn4.below hgx0 hB3.size)
   have Hsy := scatter_any gy _ rs k (some ⟨gr, 0, none⟩) rs.length w4 hby4 (rx_whole hbr4 n2) hk1 (by omega) (by rw [Hply.out]; exact Hs.out) (by rw [Hrl.out]; exact Hh.out) (pad_lt Hdy.out _) Hrp.out
   rw [Hply.out] at Hsy
   clear Hsx hbx3 hby hbr3 htn4 hB3
   go_wp2_with fail
   refine Hsy.mono ?_
   rintro e w5 ⟨y2, rfl, hrowy, hby5, htn5⟩
   have hbx5 := hbx4.tn htn5 n3
   have hB5 := hB4.trans (htn5.below hgy0 hB4.size)
   clear Hsy hbx4 hby4 hbr4 htn5 hB4
   rw [fl_pad] at hrowx hrowy
   obtain ⟨S, hS⟩ : ∃ S, S = sAll (rtsL rs k) k k (fl dx) := ⟨_, rfl⟩
   obtain ⟨T, hT⟩ : ∃ T, T = sAll (rtsL rs k) k k (fl dy) := ⟨_, rfl⟩
   rw [← hS, ← Hs.out] at hrowx
   rw [← hT, ← Hs.out] at hrowy
   have HS := hi9 hS
   have HT := hi9 hT
   clear hS hT
   go_wp2_with fail
   go_loopw [9, 40] (fun _ iv wr => ∃ (i : Nat) (zs : List Nat), i ≤ s ∧ iv = .int .i64 i ∧ Prod S T s i zs ∧ Blk wr gx 53 (u64s zs) ∧ Blk wr gy 53 (u64s y2) ∧ Below w.heap.size w wr) (fun _ iv _ => s - (intOf iv).toNat)
   case atStart => exact ⟨0, x2, by omega, rfl, Prod.start hrowx, hbx5, hby5, hB5⟩
   case round =>
    clear hrowx hbx5 hby5 hB5
    obtain ⟨i, zs, hi, rfl, hpr, hbx6, hby6, hB6⟩ := hrel
    by_cases his : i < s
    ·have i1 : i < zs.length := by rw [hpr.1]; exact his
     have i2 : i < y2.length := by rw [hrowy.1]; exact his
     have hzp := p_lt zs hpr.2.1 i i1
     have hyp := p_lt y2 hrowy.2.1 i i2
     have ez : ph zs[i] = S i := by rw [hpr.2.2 i i1, if_neg (by omega)]
     have ey : ph y2[i] = T i := hrowy.2.2 i i2
     have cz := (hbx6.cell i).trans (u64s_at i1)
     have cy := (hby6.cell i).trans (u64s_at i2)
     have fz := hbx6.frozen i
     have hmul := fun W => fieldMul_any zs[i] y2[i] (by omega) (by omega) W
     obtain ⟨a, hae⟩ : ∃ a, a = zs[i] * y2[i] % 18446744069414584321 := ⟨_, rfl⟩
     rw [← hae] at hmul
     have hap : a < 18446744069414584321 := by rw [hae]; exact Nat.mod_lt _ (by omega)
     have ea : ph a = S i * T i := by rw [hae, ph_mod, ph_mul, ez, ey]
     have Hmul := hi9 hmul
     have hst := hpr.step hap ea
     have Hst := hi9 hst
     have Hea := hi9 ea
     clear hae hmul ez ey ea hst
     go_upto_region 11 with (fail)
     go_region_with (go_at_call 100; (with_reducible refine (Hmul.out _).mono ?_); rintro e w' ⟨rfl, rfl⟩)
     all_goals
      go_wp2_with fail
      go_roundw
      case rel =>
       have hb := hbx6.set_ i (.int .u64 (a : Int))
       rw [u64s_set] at hb
       exact ⟨i + 1, zs.set i a, by omega, by go_num, Hst.out, by first | exact hb | exact hb.drew, by first | exact hby6.far (p := ⟨gx, i, none⟩) n3.symm _ | exact (hby6.far (p := ⟨gx, i, none⟩) n3.symm _).drew, by first | exact hB6.setCell (p := ⟨gx, i, none⟩) hgx0 _ | exact (hB6.setCell (p := ⟨gx, i, none⟩) hgx0 _).drew⟩
      case measure => simp [intOf]; omega
    ·have hie : i = s := by omega
     rw [hie] at hpr
     have hrowp := hpr.done
     have hzl := hrowp.1
     have hzp := hrowp.2.1
     have Hflp := hi9 (fl_row hrowp)
     have Hzl := hi9 hzl
     have Hzp : Hid (∀ v ∈ zs, v < 18446744069414584321) := hzp
     have t5 : s ≤ i := by omega
     clear hie hpr hrowp hzl hzp hrowy
     go_wp2_with fail
     refine (fieldPow_any 7 E2 (by omega) hE2b _).mono ?_
     rintro e w7 ⟨r2, rfl, hr2e, rfl⟩
     have hr2p : r2 < 18446744069414584321 := by rw [hr2e]; exact Nat.mod_lt _ (by omega)
     have Hr2 := hi9 hr2e
     clear hr2e
     go_wp2_with fail
     refine (rootsOf_any s h r2 Hsh.out hh1 hr2p (by omega) _).mono ?_
     rintro e w8 ⟨rs2, gr2, rfl, hrl2, hrp2, hrz2, hgr2, hbr2, hb8⟩
     have Hrl2 := hi9 hrl2
     have Hrz2 := hi9 hrz2
     have l6 := hbx6.lt
     have n5 : gr2 ≠ gx := by omega
     have hbx8 := hbx6.below hb8 l6
     have hB8 := hB6.trans (hb8.mono hB6.size)
     have Hga := gather_any gx zs rs2 k (some ⟨gr2, 0, none⟩) rs2.length w8 hbx8 (rx_whole hbr2 n5) hk1 (by omega) (by rw [Hzl.out]; exact Hs.out) (by rw [Hrl2.out]; exact Hh.out) Hzp.out hrp2
     rw [Hzl.out] at Hga
     clear hrl2 hrz2 hbx6 hby6 hB6 hb8 hbx8
     go_wp2_with fail
     refine Hga.mono ?_
     rintro e w9 ⟨u, rfl, hrowu, hbu, htn9⟩
     have hB9 := hB8.trans (htn9.below hgx0 hB8.size)
     clear Hga htn9 hB8 hbr2
     obtain ⟨e0, he0⟩ : ∃ e0, e0 + 1 = 18446744069414584320 := ⟨18446744069414584319, rfl⟩
     have hp3 := fun W => fieldPow_any s e0 (by omega) (by omega) W
     rw [show (e0 : Int) = 18446744069414584319 from by omega] at hp3
     have Hp3 := hi9 hp3
     clear hp3
     go_wp2_with fail
     refine (Hp3.out _).mono ?_
     rintro e w10 ⟨r3, rfl, hr3, rfl⟩
     have hr3p : r3 < 18446744069414584321 := by rw [hr3]; exact Nat.mod_lt _ (by omega)
     have hul : u.length = s := hrowu.1.trans Hs.out.symm
     have hall : ∀ j, j < 2 ^ k → u.getD j 0 * ((2 ^ k) ^ e0 % 18446744069414584321) % 18446744069414584321 = (mulL dx dy).getD j 0 := by
      refine ntt_out k e0 he0 hk1 hk32 dx dy 65535 Hdx.out Hdy.out (by rw [Hlx.out, Hly.out, ← Hs.out]; omega) (by rw [Hlx.out]; omega) (fl zs) (fun j hj => ?_) (fun j => u.getD j 0) (fun j hj => ?_)
      ·have hj2 : j < s := by rw [Hs.out]; exact hj
       rw [Hflp.out j hj2]
       show (if j < s then S j * T j else 0) = _
       rw [if_pos hj2, HS.out, HT.out]
       rw [sAll_rt (rtsL rs k) (rtsOf (ph 7 ^ rootE k) k) _ (rtsL_of (by rw [← HE.out]; exact Hr1.out) (by rw [Hrl.out]; exact Hh.out) Hrz.out) k nl9, sAll_rt (rtsL rs k) (rtsOf (ph 7 ^ rootE k) k) _ (rtsL_of (by rw [← HE.out]; exact Hr1.out) (by rw [Hrl.out]; exact Hh.out) Hrz.out) k nl9]
      ·have hj2 : j < u.length := by rw [hrowu.1]; exact hj
       show ph (u.getD j 0) = _
       rw [List.getD_eq_getElem?_getD, List.getElem?_eq_getElem hj2]
       show ph u[j] = _
       rw [hrowu.2.2 j hj2]
       rw [gAll_rt (rtsL rs2 k) (rtsOf (ph 7 ^ (18446744069414584320 - rootE k)) k) _ (rtsL_of (by rw [← HE2.out]; exact Hr2.out) (by rw [Hrl2.out]; exact Hh.out) Hrz2.out) k nl9]
     have lz : (mulL dx dy).length = 4 * (us.length + vs.length) := by rw [mulL_length, Hlx.out, Hly.out]; omega
     have vz : val 65536 (mulL dx dy) = val 18446744073709551616 us * val 18446744073709551616 vs := by rw [val_mulL, Hvx.out, Hvy.out]
     have hca := carried_any (some ⟨gx, 0, none⟩) s u (mulL dx dy) r3 (us.length + vs.length) w9 w9.heap.size (Rd.of_blk hbu hbu.lt 0 (fun k v hv => by rw [Nat.zero_add]; exact hv)) nl9 (fun v hv => by have := hrowu.2.1 v hv; omega) (by omega) (by rw [hul]; omega) lz (fun i hi hi2 => by
      have h9 := hall i (by rw [← Hs.out, ← hul]; exact hi)
      rw [List.getD_eq_getElem?_getD, List.getElem?_eq_getElem hi, List.getD_eq_getElem?_getD, List.getElem?_eq_getElem hi2] at h9
      rw [hr3, Hs.out]
      exact h9) (by rw [vz]; exact HP.out) (by omega)
     rw [vz, hul, show ((us.length + vs.length : Nat) : Int) = (us.length : Int) + (vs.length : Int) from by omega] at hca
     have Hca := hi9 hca
     clear hca hall lz vz hul hr3
     go_wp2_with fail
     refine Hca.out.mono ?_
     rintro e w11 ⟨zs2, g2, rfl, hzl2, hzd2, hzv2, hg2, hb2', hbel2⟩
     have Hzl2 := hi9 hzl2
     clear hzl2
     go_wp2_with fail
     go_ret
     exact ⟨zs2, g2, rfl, Hzl2.out, hzd2, hzv2, Nat.le_trans hB9.size hg2, hb2', hB9.trans (hbel2.mono hB9.size)⟩
end
section
open Go.RowKit
set_option maxHeartbeats 1600000 in
theorem product_all (n : Nat) : ProdOk n := by
 induction n using Nat.strongRecOn with
 | _ n ih =>
 intro A A2 c c2 us vs w B hn hr hr2 hB hd hd2 hc hc2 hm
 have Hih : Hid (∀ m, m < n → ProdOk m) := ih
 clear ih
 go_enter Tryz.func70, Tryz.ntmps70
 go_upto_if 9 with (fail)
 go_cut [0, 1] (fun s0 s1 wc => ∃ (D D2 : Option Addr) (d d2 : Nat) (xs ys : List Nat), s0 = .slice D xs.length d ∧ s1 = .slice D2 ys.length d2 ∧ ys.length ≤ xs.length ∧ Hid (xs.length + ys.length = us.length + vs.length) ∧ xs.length + ys.length ≤ n ∧ xs.length + ys.length ≤ 536870912 ∧ Dig 18446744073709551616 xs ∧ Dig 18446744073709551616 ys ∧ Hid (val 18446744073709551616 xs * val 18446744073709551616 ys = val 18446744073709551616 us * val 18446744073709551616 vs) ∧ Rd w B D (u64s xs) ∧ Rd w B D2 (u64s ys) ∧ xs.length ≤ d ∧ ys.length ≤ d2 ∧ wc = w)
 case first =>
  by_cases hlt : us.length < vs.length
  ·go_wp2
   go_meet
   exact ⟨A2, A, c2, c, vs, us, rfl, rfl, by omega, hi9 (Nat.add_comm _ _), by omega, by omega, hd2, hd, hi9 (Nat.mul_comm _ _), hr2, hr, hc2, hc, rfl⟩
  ·go_wp2
   go_meet
   exact ⟨A, A2, c, c2, us, vs, rfl, rfl, by omega, hi9 rfl, by omega, by omega, hd, hd2, hi9 rfl, hr, hr2, hc, hc2, rfl⟩
 case rest =>
  clear hr hr2 hd hd2 hc hc2 hm hn
  obtain ⟨D, D2, d, d2, xs, ys, rfl, rfl, hle, Hlen, hn, hm, hd, hd2, Hv, hr, hr2, hc, hc2, rfl⟩ := hcut
  by_cases h40 : ys.length < 40
  ·have t1 : decide ((ys.length : Int) < 40) = true := by simp; omega
   have hcon := longProduct_any D D2 d d2 xs ys wc B hr hr2 hB hd hd2 (by omega)
   rw [Hlen.out, Hv.out] at hcon
   have Hc := hi9 hcon
   clear hcon
   go_wp2_with (go_at_call 80; refine Hc.out.mono ?_; rintro e w1 ⟨zs, g, rfl, hzl, hzd, hzv, hg, hblk, hbel⟩; have Hzl := hi9 hzl; clear hzl)
   go_ret
   exact ⟨zs, g, rfl, Hzl.out, hzd, hzv, hg, hblk, hbel⟩
  have t1 : decide ((ys.length : Int) < 40) = false := by simp; omega
  by_cases h2 : 2 * ys.length < xs.length
  ·have t2 : decide (2 * (ys.length : Int) < (xs.length : Int)) = true := by simp; omega
   have hcon := piecewise_any D D2 d d2 xs ys wc B (Hih.out _ (by omega)) hr hr2 hB hd hd2 hc hc2 (by omega) hle hm
   rw [Hlen.out, Hv.out] at hcon
   have Hc := hi9 hcon
   clear hcon
   go_wp2_with (go_at_call 81; refine Hc.out.mono ?_; rintro e w1 ⟨zs, g, rfl, hzl, hzd, hzv, hg, hblk, hbel⟩; have Hzl := hi9 hzl; clear hzl)
   go_ret
   exact ⟨zs, g, rfl, Hzl.out, hzd, hzv, hg, hblk, hbel⟩
  have t2 : decide (2 * (ys.length : Int) < (xs.length : Int)) = false := by simp; omega
  by_cases h3 : ys.length < 2800
  ·have t3 : decide ((ys.length : Int) < 2800) = true := by simp; omega
   have hcon := byHalves_any D D2 d d2 xs ys wc B (Hih.out _ (by omega)) hr hr2 hB hd hd2 hc hc2 (by omega) hle (by omega) hm
   rw [Hlen.out, Hv.out] at hcon
   have Hc := hi9 hcon
   clear hcon
   go_wp2_with (go_at_call 82; refine Hc.out.mono ?_; rintro e w1 ⟨zs, g, rfl, hzl, hzd, hzv, hg, hblk, hbel⟩; have Hzl := hi9 hzl; clear hzl)
   go_ret
   exact ⟨zs, g, rfl, Hzl.out, hzd, hzv, hg, hblk, hbel⟩
  ·have t3 : decide ((ys.length : Int) < 2800) = false := by simp; omega
   have hcon := byTransform_any D D2 d d2 xs ys wc B hr hr2 hB hd hd2 (by omega) hm
   rw [Hlen.out, Hv.out] at hcon
   have Hc := hi9 hcon
   clear hcon
   go_wp2_with (go_at_call 83; refine Hc.out.mono ?_; rintro e w1 ⟨zs, g, rfl, hzl, hzd, hzv, hg, hblk, hbel⟩; have Hzl := hi9 hzl; clear hzl)
   go_ret
   exact ⟨zs, g, rfl, Hzl.out, hzd, hzv, hg, hblk, hbel⟩
theorem product_any (A A2 : Option Addr) (c c2 : Nat) (us vs : List Nat) (w : World) (B : Nat) (hr : Rd w B A (u64s us)) (hr2 : Rd w B A2 (u64s vs)) (hB : B ≤ w.heap.size) (hd : Dig 18446744073709551616 us) (hd2 : Dig 18446744073709551616 vs) (hc : us.length ≤ c) (hc2 : vs.length ≤ c2) (hm : us.length + vs.length ≤ 536870912) :
  Calls Tryz.prog 70 #[.slice A us.length c, .slice A2 vs.length c2] w fun e w' => Words w w' (us.length + vs.length) (val 18446744073709551616 us * val 18446744073709551616 vs) e :=
 product_all _ A A2 c c2 us vs w B nl9 hr hr2 hB hd hd2 hc hc2 hm
end
end Go.Proofs.YtcjgilagldbjnaaGreatDoor
