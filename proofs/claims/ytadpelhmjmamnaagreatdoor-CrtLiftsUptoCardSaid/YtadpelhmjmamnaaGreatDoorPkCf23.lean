/- The contract of byTransform. Conditions: at most 2^29 words together. The walk of byTransform. Conditions: at most 2^29 words together. The contract of product, for all words: by induction on their number. Conditions: at most 2^29 words together. The contracts of nat.Sub and shortMul. Conditions: fewer limbs than any slice can have. -/
import Derived.Test.YtadpelhmjmamnaaGreatDoorPkCf22
import Derived.Deep.RegionWith
import Derived.Test.YtadpelhmjmamnaaGreatDoorPkCf16
import Derived.Test.YtadpelhmjmamnaaGreatDoorPkCf21
namespace Go.Proofs.YtadpelhmjmamnaaGreatDoor
section
open Go.RowKit

theorem sLay_rt {z9 : Nat} {h : Nat} (hh : 0 < h) (rt ru x : Nat → Fin z9) (e : ∀ i, i < h → rt i = ru i) : sLay h rt x = sLay h ru x := by
  funext j
  unfold sLay
  split
  · rfl
  · rw [e _ (by have := Nat.mod_lt j (show 0 < 2 * h by omega); omega)]
theorem gLay_rt {z9 : Nat} {h : Nat} (hh : 0 < h) (rt ru x : Nat → Fin z9) (e : ∀ i, i < h → rt i = ru i) : gLay h rt x = gLay h ru x := by
  funext j
  unfold gLay
  split
  · rename_i hj; rw [e _ hj]
  · rw [e _ (by have := Nat.mod_lt j (show 0 < 2 * h by omega); omega)]
theorem sAll_rt {z9 : Nat} {k : Nat} (rts rus : Nat → Nat → Fin z9) (x : Nat → Fin z9) (e : ∀ j i, j < k → i < 2 ^ j → rts (2 ^ j) i = rus (2 ^ j) i) (m : Nat) (hm : m ≤ k) : sAll rts k m x = sAll rus k m x := by
  induction m with
  | zero => rfl
  | succ m ih =>
    show sLay _ _ (sAll rts k m x) = sLay _ _ (sAll rus k m x)
    rw [ih (by omega)]
    exact sLay_rt (Nat.two_pow_pos _) _ _ _ fun i hi => e _ i (by omega) hi
theorem gAll_rt {z9 : Nat} {k : Nat} (rts rus : Nat → Nat → Fin z9) (x : Nat → Fin z9) (e : ∀ j i, j < k → i < 2 ^ j → rts (2 ^ j) i = rus (2 ^ j) i) (m : Nat) (hm : m ≤ k) : gAll rts m x = gAll rus m x := by
  induction m with
  | zero => rfl
  | succ m ih =>
    show gLay _ _ (gAll rts m x) = gLay _ _ (gAll rus m x)
    rw [ih (by omega)]
    exact gLay_rt (Nat.two_pow_pos _) _ _ _ fun i hi => e _ i (by omega) hi
/-- What rootsOf makes is the roots of each layer. -/
theorem rtsL_of {rs : List Nat} {k r e : Nat} (hr : r = 7 ^ e % 18446744069414584321) (hl : rs.length = 2 ^ (k - 1)) (hz : ∀ i (hi : i < rs.length), rs[i] = r ^ i % 18446744069414584321) : ∀ j i, j < k → i < 2 ^ j → rtsL rs k (2 ^ j) i = rtsOf (ph 7 ^ e) k (2 ^ j) i := by
  intro j i hj hi
  unfold rtsL rtsOf
  have hix : i * (2 ^ (k - 1) / 2 ^ j) < rs.length := by
    rw [hl, half_div hj]
    calc i * 2 ^ (k - 1 - j) < 2 ^ j * 2 ^ (k - 1 - j) := Nat.mul_lt_mul_of_pos_right hi (Nat.two_pow_pos _)
      _ = 2 ^ (k - 1) := by rw [← Nat.pow_add]; congr 1; omega
  rw [List.getD_eq_getElem?_getD, List.getElem?_eq_getElem hix]
  show ph rs[i * (2 ^ (k - 1) / 2 ^ j)] = _
  rw [hz _ hix, ph_mod, ph_pow, hr, ph_mod, ph_pow]
theorem fl_pad (xs : List Nat) (m : Nat) : fl (xs ++ List.replicate m 0) = fl xs := by
  funext i
  unfold fl
  congr 1
  rw [List.getD_eq_getElem?_getD, List.getD_eq_getElem?_getD]
  by_cases h : i < xs.length
  · rw [List.getElem?_append_left h]
  · rw [List.getElem?_append_right (by omega), List.getElem?_eq_none (l := xs) (by omega), List.getElem?_replicate]
    split <;> rfl
theorem rootE_lt (k : Nat) : rootE k < 18446744073709551616 := by
  unfold rootE
  exact Nat.lt_of_le_of_lt (Nat.div_le_self _ _) (by omega)
theorem pad_lt {ds : List Nat} (h : ∀ v ∈ ds, v ≤ 65535) (m : Nat) : ∀ v ∈ ds ++ List.replicate m 0, v < 18446744069414584321 := fun v hv => by
  rcases List.mem_append.1 hv with hv | hv
  · have := h v hv; omega
  · rw [(List.mem_replicate.1 hv).2]; omega
theorem val_addP (b : Nat) (xs ys : List Nat) : val b (addP xs ys) = val b xs + val b ys := by
  induction xs generalizing ys with
  | nil => simp [addP, val]
  | cons x xs ih => cases ys with
    | nil => simp [addP, val]
    | cons y ys => simp only [addP, val, ih, Nat.mul_add]; omega
theorem val_mapP (b x : Nat) (ys : List Nat) : val b (ys.map (x * ·)) = x * val b ys := by
  induction ys with
  | nil => simp [val]
  | cons y ys ih => simp only [List.map_cons, val, ih, Nat.mul_add]; rw [Nat.mul_left_comm]
theorem val_mulL (b : Nat) (xs ys : List Nat) : val b (mulL xs ys) = val b xs * val b ys := by
  induction xs with
  | nil => rw [mulL, val_zeros]; simp [val]
  | cons x xs ih => simp only [mulL, val_addP, val_mapP, val, ih, Nat.add_mul]; rw [Nat.zero_add, Nat.mul_assoc]

/-- What the row of products is: each place the product of both. -/
def Prod (S T : Nat → FP) (n i : Nat) (zs : List Nat) : Prop :=
  zs.length = n ∧ (∀ v ∈ zs, v < 18446744069414584321) ∧ ∀ j (hj : j < zs.length), ph zs[j] = if j < i then S j * T j else S j
theorem Prod.start {S T : Nat → FP} {n : Nat} {zs : List Nat} (h : Row S n zs) : Prod S T n 0 zs := ⟨h.1, h.2.1, fun j hj => by rw [if_neg (by omega)]; exact h.2.2 j hj⟩
theorem Prod.step {S T : Nat → FP} {n i a : Nat} {zs : List Nat} (h : Prod S T n i zs) (ha : a < 18446744069414584321) (ea : ph a = S i * T i) : Prod S T n (i + 1) (zs.set i a) := by
  refine ⟨by simpa using h.1, fun v hv => ?_, fun j hj => ?_⟩
  · rcases List.mem_or_eq_of_mem_set hv with hv | rfl
    · exact h.2.1 v hv
    · exact ha
  · rw [List.getElem_set]
    split
    · rename_i e; subst e; rw [if_pos (by omega)]; exact ea
    · rw [h.2.2 j (by simpa using hj)]
      by_cases h1 : j < i
      · rw [if_pos h1, if_pos (by omega)]
      · rw [if_neg h1, if_neg (by omega)]
theorem Prod.done {S T : Nat → FP} {n : Nat} {zs : List Nat} (h : Prod S T n n zs) : Row (fun j => if j < n then S j * T j else 0) n zs := ⟨h.1, h.2.1, fun j hj => by
  have h1 := h.1
  rw [h.2.2 j hj, if_pos (by omega)]
  show _ = if j < n then S j * T j else 0
  rw [if_pos (by omega)]⟩
theorem fl_row {S : Nat → FP} {n : Nat} {zs : List Nat} (h : Row S n zs) : ∀ j, j < n → fl zs j = S j := fun j hj => by
  have hj2 : j < zs.length := by rw [h.1]; exact hj
  rw [← h.2.2 j hj2]
  unfold fl
  rw [List.getD_eq_getElem?_getD, List.getElem?_eq_getElem hj2]; rfl
end
section
open Go.RowKit

set_option maxHeartbeats 3200000 in
set_option maxRecDepth 100000 in
theorem byTransform_any (A A2 : Option Addr) (c c2 : Nat) (us vs : List Nat) (w : World) (B : Nat) (hr : Rd w B A (u64s us)) (hr2 : Rd w B A2 (u64s vs)) (hB : B ≤ w.heap.size) (hd : Dig 18446744073709551616 us) (hd2 : Dig 18446744073709551616 vs) (h1 : 1 ≤ us.length + vs.length) (hm : us.length + vs.length ≤ 536870912) :
    Calls Tryz.prog 147 #[.slice A us.length c, .slice A2 vs.length c2] w fun e w' => Words w w' (us.length + vs.length) (val 18446744073709551616 us * val 18446744073709551616 vs) e := by
  have HP := Lib.hid (prod_lt hd hd2 (by omega))
  go_enter Tryz.func147, Tryz.ntmps147
  go_wp2_with fail
  go_loop [5] (fun sv => ∃ k s : Nat, sv = .int .i64 s ∧ Hid (s = 2 ^ k) ∧ 1 ≤ s ∧ (s = 1 ∨ s < 8 * (us.length + vs.length))) (fun sv => 4 * (us.length + vs.length) - (intOf sv).toNat)
  case atStart => exact ⟨0, 1, rfl, rfl, by omega, Or.inl rfl⟩
  case round =>
    obtain ⟨k, s, rfl, Hs, hs1, hs8⟩ := hrel
    by_cases hlt : s < 4 * (us.length + vs.length)
    · have t1 : decide ((s : Int) < 4 * ((us.length : Int) + (vs.length : Int))) = true := by simp; omega
      go_wp2_with fail
      go_round
      case rel => exact ⟨k + 1, 2 * s, by go_num, by show 2 * s = _; rw [Nat.pow_succ, ← Hs.out]; omega, by omega, Or.inr (by omega)⟩
      case measure => simp [intOf]; omega
    · have t1 : decide ((s : Int) < 4 * ((us.length : Int) + (vs.length : Int))) = false := by simp; omega
      have hs32 : s < 4294967296 := by omega
      have hs4 : 4 ≤ s := by omega
      have hk32 : k ≤ 32 := by
        rcases Nat.lt_or_ge 32 k with h9 | h9
        · exfalso
          have := Nat.pow_le_pow_right (show 0 < 2 by omega) h9
          rw [← Hs.out] at this
          have e : (2 : Nat) ^ (32 + 1) = 8589934592 := rfl
          omega
        · exact h9
      have hk1 : 1 ≤ k := by
        rcases Nat.eq_zero_or_pos k with h9 | h9
        · exfalso; have := Hs.out; rw [h9] at this; omega
        · exact h9
      obtain ⟨h, hh⟩ : ∃ h, h = 2 ^ (k - 1) := ⟨_, rfl⟩
      have hsh : s = 2 * h := by rw [Hs.out, hh, ← Nat.pow_succ']; congr 1; omega
      have hh1 : 1 ≤ h := by omega
      have hhb : h ≤ 4294967296 := by omega
      have Hh := Lib.hid hh
      have Hsh := Lib.hid hsh
      clear hh hsh hs8
      obtain ⟨E, hE⟩ : ∃ E, E = rootE k := ⟨_, rfl⟩
      have hEb : E < 18446744073709551616 := by rw [hE]; exact rootE_lt k
      have hE2 : E = 18446744069414584320 / s := by rw [hE, Hs.out]; rfl
      have hEp : E ≤ 18446744069414584320 := by rw [hE2]; exact Nat.div_le_self _ _
      have q1 : (18446744069414584320 : Int) / (s : Int) = (E : Int) := by rw [hE2]; exact (Int.natCast_ediv _ _).symm
      have q1t : (18446744069414584320 : Int).tdiv (s : Int) = (E : Int) := by rw [Int.tdiv_eq_ediv_of_nonneg (by omega), q1]
      obtain ⟨E2, hE2'⟩ := nameIt (18446744069414584320 - E)
      have q2 : (18446744069414584320 : Int) - (E : Int) = (E2 : Int) := by omega
      have HE := Lib.hid hE
      have HE2 : Hid (E2 = 18446744069414584320 - rootE k) := by show E2 = _; rw [← hE]; exact hE2'
      have hE2b : E2 < 18446744073709551616 := by omega
      have hne : ¬ ((s : Int) = 0) := by omega
      have hne2 : ((s : Int) == 0) = false := by simp; omega
      clear hE hE2 hE2'
      go_wp2_with fail
      refine (fieldPow_any 7 E (by omega) hEb _).mono ?_
      rintro e w0 ⟨r1, rfl, hr1, rfl⟩
      have hr1p : r1 < 18446744069414584321 := by rw [hr1]; exact Nat.mod_lt _ (by omega)
      have Hr1 := Lib.hid hr1
      clear hr1
      go_wp2_with fail
      refine (rootsOf_any s h r1 Hsh.out hh1 hr1p (by omega) _).mono ?_
      rintro e w1 ⟨rs, gr, rfl, hrl, hrp, hrz, hgr, hbr, hb1⟩
      have Hrl := Lib.hid hrl
      have Hrz := Lib.hid hrz
      have Hrp : Hid (∀ v ∈ rs, v < 18446744069414584321) := hrp
      clear hrl hrz hrp
      go_wp2_with fail
      refine (digitsOf_any A c us s w1 B (hr.below (hb1.mono hB)) (Nat.le_trans hB hb1.size) hd (by omega) (by omega)).mono ?_
      rintro e w2 ⟨gx, rfl, hgx, hbx, hb2⟩
      go_wp2_with fail
      have hb12 := hb1.trans (hb2.mono hb1.size)
      refine (digitsOf_any A2 c2 vs s w2 B (hr2.below (hb12.mono hB)) (Nat.le_trans hB hb12.size) hd2 (by omega) (by omega)).mono ?_
      rintro e w3 ⟨gy, rfl, hgy, hby, hb3⟩
      have l1 := hbr.lt
      have l2 := hbx.lt
      have n1 : gr ≠ gx := by omega
      have n2 : gr ≠ gy := by omega
      have n3 : gx ≠ gy := by omega
      have hgx0 : w.heap.size ≤ gx := by have := hb1.size; omega
      have hgy0 : w.heap.size ≤ gy := by have := hb12.size; omega
      have hB3 := hb12.trans (hb3.mono hb12.size)
      have hbr3 := (hbr.below hb2 l1).below hb3 (by omega)
      have hbx3 := hbx.below hb3 l2
      have hdx := digs_le us
      have hdy := digs_le vs
      have lx := digs_length us
      have ly := digs_length vs
      obtain ⟨dx, hdxe⟩ : ∃ dx, dx = digs us := ⟨_, rfl⟩
      obtain ⟨dy, hdye⟩ : ∃ dy, dy = digs vs := ⟨_, rfl⟩
      have vx := digs_val us hd
      have vy := digs_val vs hd2
      rw [← hdxe] at hbx3 hdx lx vx
      rw [← hdye] at hby hdy ly vy
      have plx : (dx ++ List.replicate (s - 4 * us.length) 0).length = s := by rw [List.length_append, lx, List.length_replicate]; omega
      have ply : (dy ++ List.replicate (s - 4 * vs.length) 0).length = s := by rw [List.length_append, ly, List.length_replicate]; omega
      have Hsx := scatter_any gx _ rs k (some ⟨gr, 0, none⟩) rs.length w3 hbx3 (rx_whole hbr3 n1) hk1 (by omega) (by rw [plx]; exact Hs.out) (by rw [Hrl.out]; exact Hh.out) (pad_lt hdx _) Hrp.out
      rw [plx] at Hsx
      have Hdx : Hid (∀ v ∈ dx, v ≤ 65535) := hdx
      have Hdy : Hid (∀ v ∈ dy, v ≤ 65535) := hdy
      have Hlx := Lib.hid lx
      have Hly := Lib.hid ly
      have Hvx := Lib.hid vx
      have Hvy := Lib.hid vy
      have Hply := Lib.hid ply
      clear hdx hdy lx ly vx vy plx ply hdxe hdye hbx hbr hb1 hb2 hb3 hb12 l1 l2 hgx hgy hgr
      go_wp2_with fail
      refine Hsx.mono ?_
      rintro e w4 ⟨x2, rfl, hrowx, hbx4, htn4⟩
      have hbr4 := hbr3.tn htn4 n1
      have hby4 := hby.tn htn4 n3.symm
      have hB4 := hB3.trans (htn4.below hgx0 hB3.size)
      have Hsy := scatter_any gy _ rs k (some ⟨gr, 0, none⟩) rs.length w4 hby4 (rx_whole hbr4 n2) hk1 (by omega) (by rw [Hply.out]; exact Hs.out) (by rw [Hrl.out]; exact Hh.out) (pad_lt Hdy.out _) Hrp.out
      rw [Hply.out] at Hsy
      clear Hsx hbx3 hby hbr3 htn4 hB3
      go_wp2_with fail
      refine Hsy.mono ?_
      rintro e w5 ⟨y2, rfl, hrowy, hby5, htn5⟩
      have hbx5 := hbx4.tn htn5 n3
      have hB5 := hB4.trans (htn5.below hgy0 hB4.size)
      clear Hsy hbx4 hby4 hbr4 htn5 hB4
      rw [fl_pad] at hrowx hrowy
      obtain ⟨S, hS⟩ : ∃ S, S = sAll (rtsL rs k) k k (fl dx) := ⟨_, rfl⟩
      obtain ⟨T, hT⟩ : ∃ T, T = sAll (rtsL rs k) k k (fl dy) := ⟨_, rfl⟩
      rw [← hS, ← Hs.out] at hrowx
      rw [← hT, ← Hs.out] at hrowy
      have HS := Lib.hid hS
      have HT := Lib.hid hT
      clear hS hT
      go_wp2_with fail
      go_loopw [9, 40] (fun _ iv wr => ∃ (i : Nat) (zs : List Nat), i ≤ s ∧ iv = .int .i64 i ∧ Prod S T s i zs ∧ Blk wr gx 84 (u64s zs) ∧ Blk wr gy 84 (u64s y2) ∧ Below w.heap.size w wr) (fun _ iv _ => s - (intOf iv).toNat)
      case atStart => exact ⟨0, x2, by omega, rfl, Prod.start hrowx, hbx5, hby5, hB5⟩
      case round =>
        clear hrowx hbx5 hby5 hB5
        obtain ⟨i, zs, hi, rfl, hpr, hbx6, hby6, hB6⟩ := hrel
        by_cases his : i < s
        · have i1 : i < zs.length := by rw [hpr.1]; exact his
          have i2 : i < y2.length := by rw [hrowy.1]; exact his
          have hzp := p_lt zs hpr.2.1 i i1
          have hyp := p_lt y2 hrowy.2.1 i i2
          have ez : ph zs[i] = S i := by rw [hpr.2.2 i i1, if_neg (by omega)]
          have ey : ph y2[i] = T i := hrowy.2.2 i i2
          have cz := (hbx6.cell i).trans (u64s_at i1)
          have cy := (hby6.cell i).trans (u64s_at i2)
          have fz := hbx6.frozen i
          have hmul := fun W => fieldMul_any zs[i] y2[i] (by omega) (by omega) W
          obtain ⟨a, hae⟩ : ∃ a, a = zs[i] * y2[i] % 18446744069414584321 := ⟨_, rfl⟩
          rw [← hae] at hmul
          have hap : a < 18446744069414584321 := by rw [hae]; exact Nat.mod_lt _ (by omega)
          have ea : ph a = S i * T i := by rw [hae, ph_mod, ph_mul, ez, ey]
          have Hmul := Lib.hid hmul
          have hst := hpr.step hap ea
          have Hst := Lib.hid hst
          have Hea := Lib.hid ea
          clear hae hmul ez ey ea hst
          go_upto_region 11 with (fail)
          go_region_with (go_at_call 164; (with_reducible refine (Hmul.out _).mono ?_); rintro e w' ⟨rfl, rfl⟩)
          all_goals
            go_wp2_with fail
            go_roundw
            case rel =>
              have hb := hbx6.set_ i (.int .u64 (a : Int))
              rw [u64s_set] at hb
              exact ⟨i + 1, zs.set i a, by omega, by go_num, Hst.out, by first | exact hb | exact hb.drew, by first | exact hby6.far (p := ⟨gx, i, none⟩) n3.symm _ | exact (hby6.far (p := ⟨gx, i, none⟩) n3.symm _).drew, by first | exact hB6.setCell (p := ⟨gx, i, none⟩) hgx0 _ | exact (hB6.setCell (p := ⟨gx, i, none⟩) hgx0 _).drew⟩
            case measure => simp [intOf]; omega
        · have hie : i = s := by omega
          rw [hie] at hpr
          have hrowp := hpr.done
          have hzl := hrowp.1
          have hzp := hrowp.2.1
          have Hflp := Lib.hid (fl_row hrowp)
          have Hzl := Lib.hid hzl
          have Hzp : Hid (∀ v ∈ zs, v < 18446744069414584321) := hzp
          have t5 : s ≤ i := by omega
          clear hie hpr hrowp hzl hzp hrowy
          go_wp2_with fail
          refine (fieldPow_any 7 E2 (by omega) hE2b _).mono ?_
          rintro e w7 ⟨r2, rfl, hr2e, rfl⟩
          have hr2p : r2 < 18446744069414584321 := by rw [hr2e]; exact Nat.mod_lt _ (by omega)
          have Hr2 := Lib.hid hr2e
          clear hr2e
          go_wp2_with fail
          refine (rootsOf_any s h r2 Hsh.out hh1 hr2p (by omega) _).mono ?_
          rintro e w8 ⟨rs2, gr2, rfl, hrl2, hrp2, hrz2, hgr2, hbr2, hb8⟩
          have Hrl2 := Lib.hid hrl2
          have Hrz2 := Lib.hid hrz2
          have l6 := hbx6.lt
          have n5 : gr2 ≠ gx := by omega
          have hbx8 := hbx6.below hb8 l6
          have hB8 := hB6.trans (hb8.mono hB6.size)
          have Hga := gather_any gx zs rs2 k (some ⟨gr2, 0, none⟩) rs2.length w8 hbx8 (rx_whole hbr2 n5) hk1 (by omega) (by rw [Hzl.out]; exact Hs.out) (by rw [Hrl2.out]; exact Hh.out) Hzp.out hrp2
          rw [Hzl.out] at Hga
          clear hrl2 hrz2 hbx6 hby6 hB6 hb8 hbx8
          go_wp2_with fail
          refine Hga.mono ?_
          rintro e w9 ⟨u, rfl, hrowu, hbu, htn9⟩
          have hB9 := hB8.trans (htn9.below hgx0 hB8.size)
          clear Hga htn9 hB8 hbr2
          obtain ⟨e0, he0⟩ : ∃ e0, e0 + 1 = 18446744069414584320 := ⟨18446744069414584319, rfl⟩
          have hp3 := fun W => fieldPow_any s e0 (by omega) (by omega) W
          rw [show (e0 : Int) = 18446744069414584319 from by omega] at hp3
          have Hp3 := Lib.hid hp3
          clear hp3
          go_wp2_with fail
          refine (Hp3.out _).mono ?_
          rintro e w10 ⟨r3, rfl, hr3, rfl⟩
          have hr3p : r3 < 18446744069414584321 := by rw [hr3]; exact Nat.mod_lt _ (by omega)
          have hul : u.length = s := hrowu.1.trans Hs.out.symm
          have hall : ∀ j, j < 2 ^ k → u.getD j 0 * ((2 ^ k) ^ e0 % 18446744069414584321) % 18446744069414584321 = (mulL dx dy).getD j 0 := by
            refine ntt_out k e0 he0 hk1 hk32 dx dy 65535 Hdx.out Hdy.out (by rw [Hlx.out, Hly.out, ← Hs.out]; omega) (by rw [Hlx.out]; omega) (fl zs) (fun j hj => ?_) (fun j => u.getD j 0) (fun j hj => ?_)
            · have hj2 : j < s := by rw [Hs.out]; exact hj
              rw [Hflp.out j hj2]
              show (if j < s then S j * T j else 0) = _
              rw [if_pos hj2, HS.out, HT.out]
              rw [sAll_rt (rtsL rs k) (rtsOf (ph 7 ^ rootE k) k) _ (rtsL_of (by rw [← HE.out]; exact Hr1.out) (by rw [Hrl.out]; exact Hh.out) Hrz.out) k (Nat.le_refl _), sAll_rt (rtsL rs k) (rtsOf (ph 7 ^ rootE k) k) _ (rtsL_of (by rw [← HE.out]; exact Hr1.out) (by rw [Hrl.out]; exact Hh.out) Hrz.out) k (Nat.le_refl _)]
            · have hj2 : j < u.length := by rw [hrowu.1]; exact hj
              show ph (u.getD j 0) = _
              rw [List.getD_eq_getElem?_getD, List.getElem?_eq_getElem hj2]
              show ph u[j] = _
              rw [hrowu.2.2 j hj2]
              rw [gAll_rt (rtsL rs2 k) (rtsOf (ph 7 ^ (18446744069414584320 - rootE k)) k) _ (rtsL_of (by rw [← HE2.out]; exact Hr2.out) (by rw [Hrl2.out]; exact Hh.out) Hrz2.out) k (Nat.le_refl _)]
          have lz : (mulL dx dy).length = 4 * (us.length + vs.length) := by rw [mulL_length, Hlx.out, Hly.out]; omega
          have vz : val 65536 (mulL dx dy) = val 18446744073709551616 us * val 18446744073709551616 vs := by rw [val_mulL, Hvx.out, Hvy.out]
          have hca := carried_any (some ⟨gx, 0, none⟩) s u (mulL dx dy) r3 (us.length + vs.length) w9 w9.heap.size (Rd.of_blk hbu hbu.lt 0 (fun k v hv => by rw [Nat.zero_add]; exact hv)) (Nat.le_refl _) (fun v hv => by have := hrowu.2.1 v hv; omega) (by omega) (by rw [hul]; omega) lz (fun i hi hi2 => by
            have h9 := hall i (by rw [← Hs.out, ← hul]; exact hi)
            rw [List.getD_eq_getElem?_getD, List.getElem?_eq_getElem hi, List.getD_eq_getElem?_getD, List.getElem?_eq_getElem hi2] at h9
            rw [hr3, Hs.out]
            exact h9) (by rw [vz]; exact HP.out) (by omega)
          rw [vz, hul, show ((us.length + vs.length : Nat) : Int) = (us.length : Int) + (vs.length : Int) from by omega] at hca
          have Hca := Lib.hid hca
          clear hca hall lz vz hul hr3
          go_wp2_with fail
          refine Hca.out.mono ?_
          rintro e w11 ⟨zs2, g2, rfl, hzl2, hzd2, hzv2, hg2, hb2', hbel2⟩
          have Hzl2 := Lib.hid hzl2
          clear hzl2
          go_wp2_with fail
          go_ret
          exact ⟨zs2, g2, rfl, Hzl2.out, hzd2, hzv2, Nat.le_trans hB9.size hg2, hb2', hB9.trans (hbel2.mono hB9.size)⟩
end
section
open Go.RowKit

set_option maxHeartbeats 1600000 in
theorem product_all (n : Nat) : ProdOk n := by
  induction n using Nat.strongRecOn with
  | _ n ih =>
  intro A A2 c c2 us vs w B hn hr hr2 hB hd hd2 hc hc2 hm
  have Hih : Hid (∀ m, m < n → ProdOk m) := ih
  clear ih
  go_enter Tryz.func118, Tryz.ntmps118
  go_upto_if 9 with (fail)
  go_cut [0, 1] (fun s0 s1 wc => ∃ (D D2 : Option Addr) (d d2 : Nat) (xs ys : List Nat), s0 = .slice D xs.length d ∧ s1 = .slice D2 ys.length d2 ∧ ys.length ≤ xs.length ∧ Hid (xs.length + ys.length = us.length + vs.length) ∧ xs.length + ys.length ≤ n ∧ xs.length + ys.length ≤ 536870912 ∧ Dig 18446744073709551616 xs ∧ Dig 18446744073709551616 ys ∧ Hid (val 18446744073709551616 xs * val 18446744073709551616 ys = val 18446744073709551616 us * val 18446744073709551616 vs) ∧ Rd w B D (u64s xs) ∧ Rd w B D2 (u64s ys) ∧ xs.length ≤ d ∧ ys.length ≤ d2 ∧ wc = w)
  case first =>
    by_cases hlt : us.length < vs.length
    · go_wp2
      go_meet
      exact ⟨A2, A, c2, c, vs, us, rfl, rfl, by omega, Lib.hid (Nat.add_comm _ _), by omega, by omega, hd2, hd, Lib.hid (Nat.mul_comm _ _), hr2, hr, hc2, hc, rfl⟩
    · go_wp2
      go_meet
      exact ⟨A, A2, c, c2, us, vs, rfl, rfl, by omega, Lib.hid rfl, by omega, by omega, hd, hd2, Lib.hid rfl, hr, hr2, hc, hc2, rfl⟩
  case rest =>
    clear hr hr2 hd hd2 hc hc2 hm hn
    obtain ⟨D, D2, d, d2, xs, ys, rfl, rfl, hle, Hlen, hn, hm, hd, hd2, Hv, hr, hr2, hc, hc2, rfl⟩ := hcut
    by_cases h40 : ys.length < 40
    · have t1 : decide ((ys.length : Int) < 40) = true := by simp; omega
      have hcon := longProduct_any D D2 d d2 xs ys wc B hr hr2 hB hd hd2 (by omega)
      rw [Hlen.out, Hv.out] at hcon
      have Hc := Lib.hid hcon
      clear hcon
      go_wp2_with (go_at_call 144; refine Hc.out.mono ?_; rintro e w1 ⟨zs, g, rfl, hzl, hzd, hzv, hg, hblk, hbel⟩; have Hzl := Lib.hid hzl; clear hzl)
      go_ret
      exact ⟨zs, g, rfl, Hzl.out, hzd, hzv, hg, hblk, hbel⟩
    have t1 : decide ((ys.length : Int) < 40) = false := by simp; omega
    by_cases h2 : 2 * ys.length < xs.length
    · have t2 : decide (2 * (ys.length : Int) < (xs.length : Int)) = true := by simp; omega
      have hcon := piecewise_any D D2 d d2 xs ys wc B (Hih.out _ (by omega)) hr hr2 hB hd hd2 hc hc2 (by omega) hle hm
      rw [Hlen.out, Hv.out] at hcon
      have Hc := Lib.hid hcon
      clear hcon
      go_wp2_with (go_at_call 145; refine Hc.out.mono ?_; rintro e w1 ⟨zs, g, rfl, hzl, hzd, hzv, hg, hblk, hbel⟩; have Hzl := Lib.hid hzl; clear hzl)
      go_ret
      exact ⟨zs, g, rfl, Hzl.out, hzd, hzv, hg, hblk, hbel⟩
    have t2 : decide (2 * (ys.length : Int) < (xs.length : Int)) = false := by simp; omega
    by_cases h3 : ys.length < 2800
    · have t3 : decide ((ys.length : Int) < 2800) = true := by simp; omega
      have hcon := byHalves_any D D2 d d2 xs ys wc B (Hih.out _ (by omega)) hr hr2 hB hd hd2 hc hc2 (by omega) hle (by omega) hm
      rw [Hlen.out, Hv.out] at hcon
      have Hc := Lib.hid hcon
      clear hcon
      go_wp2_with (go_at_call 146; refine Hc.out.mono ?_; rintro e w1 ⟨zs, g, rfl, hzl, hzd, hzv, hg, hblk, hbel⟩; have Hzl := Lib.hid hzl; clear hzl)
      go_ret
      exact ⟨zs, g, rfl, Hzl.out, hzd, hzv, hg, hblk, hbel⟩
    · have t3 : decide ((ys.length : Int) < 2800) = false := by simp; omega
      have hcon := byTransform_any D D2 d d2 xs ys wc B hr hr2 hB hd hd2 (by omega) hm
      rw [Hlen.out, Hv.out] at hcon
      have Hc := Lib.hid hcon
      clear hcon
      go_wp2_with (go_at_call 147; refine Hc.out.mono ?_; rintro e w1 ⟨zs, g, rfl, hzl, hzd, hzv, hg, hblk, hbel⟩; have Hzl := Lib.hid hzl; clear hzl)
      go_ret
      exact ⟨zs, g, rfl, Hzl.out, hzd, hzv, hg, hblk, hbel⟩

theorem product_any (A A2 : Option Addr) (c c2 : Nat) (us vs : List Nat) (w : World) (B : Nat) (hr : Rd w B A (u64s us)) (hr2 : Rd w B A2 (u64s vs)) (hB : B ≤ w.heap.size) (hd : Dig 18446744073709551616 us) (hd2 : Dig 18446744073709551616 vs) (hc : us.length ≤ c) (hc2 : vs.length ≤ c2) (hm : us.length + vs.length ≤ 536870912) :
    Calls Tryz.prog 118 #[.slice A us.length c, .slice A2 vs.length c2] w fun e w' => Words w w' (us.length + vs.length) (val 18446744073709551616 us * val 18446744073709551616 vs) e :=
  product_all _ A A2 c c2 us vs w B (Nat.le_refl _) hr hr2 hB hd hd2 hc hc2 hm
end
section
open Go.RowKit

/-- What Sub answers. -/
def SubOut (w w' : World) (m n : Nat) (e : Ending) : Prop :=
  ∃ zs A' c', e = .returned (.tuple #[.slice A' zs.length c', .int .i64 (if m < n then 10 else 0)]) ∧ Num 4294967296 zs (m - n) ∧ Res w' w.heap.size 27 A' c' (u32s zs) ∧ Below w.heap.size w w'

set_option maxHeartbeats 1600000 in
theorem sub_any (A A2 : Option Addr) (c c2 : Nat) (xs ys : List Nat) (w : World) (B : Nat) (hr : Rd w B A (u32s xs)) (hr2 : Rd w B A2 (u32s ys)) (hB : B ≤ w.heap.size) (hd : Dig 4294967296 xs) (hd2 : Dig 4294967296 ys) (hc : xs.length ≤ c) (hc2 : ys.length ≤ c2) (hm : xs.length ≤ 70368744170000) (hm2 : ys.length ≤ 70368744170000) :
    Calls Tryz.prog 153 #[.slice A xs.length c, .slice A2 ys.length c2] w fun e w' => SubOut w w' (val 4294967296 xs) (val 4294967296 ys) e := by
  have hl1 := trimL_length_le xs
  have hl2 := trimL_length_le ys
  obtain ⟨m, hmv⟩ : ∃ m, m = val 4294967296 xs := ⟨_, rfl⟩
  obtain ⟨n, hnv⟩ : ∃ n, n = val 4294967296 ys := ⟨_, rfl⟩
  have hn1 := Num.of_trim hd
  have hn2 := Num.of_trim hd2
  rw [← hmv] at hn1
  rw [← hnv] at hn2
  rw [← hmv, ← hnv]
  have hrt : Rd w B A (u32s (trimL xs)) := by rw [u32s_trim]; exact hr.take _
  have hrt2 : Rd w B A2 (u32s (trimL ys)) := by rw [u32s_trim]; exact hr2.take _
  obtain ⟨us, hps⟩ : ∃ us, us = trimL xs := ⟨_, rfl⟩
  obtain ⟨vs, hqs⟩ : ∃ vs, vs = trimL ys := ⟨_, rfl⟩
  rw [← hps] at hn1 hrt hl1
  rw [← hqs] at hn2 hrt2 hl2
  have Hps := Lib.hid hps
  have Hqs := Lib.hid hqs
  have Hm : Hid (val 4294967296 us = m) := hn1.2.2
  have Hn : Hid (val 4294967296 vs = n) := hn2.2.2
  have hdu := hn1.1
  have hdv := hn2.1
  have hm' : xs.length ≤ 281474976710656 := by omega
  have hm2' : ys.length ≤ 281474976710656 := by omega
  have hub : us.length ≤ 281474976710656 := by omega
  have hvb : vs.length ≤ 281474976710656 := by omega
  have huc : us.length ≤ c := by omega
  have hvc : vs.length ≤ c2 := by omega
  have hum : us.length ≤ 70368744177664 := by omega
  clear hps hqs hmv hnv
  rcases Nat.lt_or_ge m n with hlt | hge
  · have e1 : cmpN m n = -1 := by simp [cmpN, hlt]
    have He1 := Lib.hid e1
    have Hlt := Lib.hid hlt
    clear e1 hn1 hn2 hlt
    go_enter Tryz.func153, Tryz.ntmps153
    go_wp2_with (first
      | (go_at_call 103; (with_reducible refine (trim_any A c xs _ B hr hc hm').mono ?_); rintro e w' ⟨rfl, rfl⟩; rw [← Hps.out])
      | (go_at_call 103; (with_reducible refine (trim_any A2 c2 ys _ B hr2 hc2 hm2').mono ?_); rintro e w' ⟨rfl, rfl⟩; rw [← Hqs.out])
      | (go_at_call 70; (with_reducible refine (cmp_any A A2 c c2 us vs _ B hrt hrt2 hdu hdv huc hvc hub hvb).mono ?_); rintro e w2 ⟨rfl, nd, rfl⟩; rw [Hm.out, Hn.out, He1.out]))
    go_ret2
    have hlt := Hlt.out
    refine ⟨[], none, 0, by rw [if_pos hlt]; rfl, ?_, Res.none_, (Dr.refl w).step nd |>.below _⟩
    rw [show m - n = 0 from by omega]; exact Num.zero_ _
  · obtain ⟨cv, hcv⟩ : ∃ cv, cv = cmpN m n := ⟨_, rfl⟩
    have hcv0 : decide (cv < 0) = false := by
      rw [hcv]; unfold cmpN
      rw [if_neg (by omega)]
      split <;> decide
    have Hcv := Lib.hid hcv
    have hle : val 4294967296 vs ≤ val 4294967296 us := by rw [Hm.out, Hn.out]; exact hge
    have hll : vs.length ≤ us.length := by
      rcases Nat.lt_or_ge us.length vs.length with h | h
      · have := val_lt_len (by omega) hn1 hn2 h; omega
      · exact h
    have Hle := Lib.hid hle
    have Hge := Lib.hid hge
    clear hcv hle hge hn1 hn2
    have hmk := fun W => mk32 us.length hum W
    go_enter Tryz.func153, Tryz.ntmps153
    go_wp2_with (first
      | (go_at_call 103; (with_reducible refine (trim_any A c xs _ B hr hc hm').mono ?_); rintro e w' ⟨rfl, rfl⟩; rw [← Hps.out])
      | (go_at_call 103; (with_reducible refine (trim_any A2 c2 ys _ B hr2 hc2 hm2').mono ?_); rintro e w' ⟨rfl, rfl⟩; rw [← Hqs.out])
      | (go_at_call 70; (with_reducible refine (cmp_any A A2 c c2 us vs _ B hrt hrt2 hdu hdv huc hvc hub hvb).mono ?_); rintro e w2 ⟨rfl, nd, rfl⟩; rw [Hm.out, Hn.out, ← Hcv.out])
      | (go_at_call 178; (with_reducible refine (subtracter_any _).mono ?_); rintro e w1 ⟨rfl, hbc, hsz, hbel⟩))
    have hbc : Blk w1 (w.heap.size + 1) 84 [.int .u64 ((0 : Nat) : Int)] := by rw [szA] at hbc; exact hbc
    have hblk0 : Blk w1 w.heap.size 27 (u32s (List.replicate us.length 0)) := by
      have h0 : Blk ((w.drewN nd).alloc (.cells (Array.replicate us.length (Value.int .u32 0)) 27)) w.heap.size 27 (u32s (List.replicate us.length 0)) := Blk.new_ (w := w.drewN nd) (by simp [u32s])
      exact h0.below hbel (by rw [szA]; exact Nat.lt_succ_self _)
    have hbel1 : Below w.heap.size w w1 := ((Dr.refl w).step nd |>.below _).trans (((Below.refl _ _).alloc (Nat.le_refl _) _).trans (hbel.mono (by rw [szA]; exact Nat.le_succ _)))
    clear hbel hsz hr hr2
    go_loopw [8, 9, 25] (fun _ _ i wr => ∃ (k cc : Nat) (zs : List Nat), k ≤ vs.length ∧ i = .int .i64 k ∧ Blk wr w.heap.size 27 (u32s zs) ∧ Blk wr (w.heap.size + 1) 84 [.int .u64 (cc : Int)] ∧ Subbed us vs k zs cc ∧ Below w.heap.size w wr) (fun _ _ i _ => vs.length - (intOf i).toNat)
    case atStart => exact ⟨0, 0, _, by omega, rfl, hblk0, hbc, Subbed.start _ _, hbel1⟩
    case round =>
      clear hblk0 hbc hbel1
      obtain ⟨k, cc, zs, hk, rfl, hblk, hbc, hsu, hbel⟩ := hrel
      have hcc := hsu.2.1
      by_cases hlt : k < vs.length
      · have hku : k < us.length := by omega
        obtain ⟨b, off, rfl, hb, hx⟩ := hrt.at32 hku
        obtain ⟨b2, off2, rfl, hb2, hy⟩ := hrt2.at32 hlt
        have hx := (hbel.cell (p := ⟨b, off + k, none⟩) (show b < _ by omega)).trans hx
        have hy := (hbel.cell (p := ⟨b2, off2 + k, none⟩) (show b2 < _ by omega)).trans hy
        have hxd := hdu.at_ k hku
        have hyd := hdv.at_ k hlt
        have hz1 : k < zs.length := by rw [hsu.2.2.2.2]; exact hku
        go_wp2_with (go_at_call 194; (with_reducible refine (subtracter1_any _ _ cc _ _ hxd hyd hcc hbc).mono ?_); rintro e w2 ⟨rfl, hg2, hch⟩; have hq2 := hblk.ch hch (by omega); have hc2 := (hq2.cell k).trans (u32s_at hz1); have hf2 := hq2.frozen k)
        go_roundw
        case rel =>
          have h9 := hsu.step hz1 hdu hdv
          rw [at0_in hku, at0_in hlt] at h9
          refine ⟨k + 1, 1 - (4294967296 + us[k] - vs[k] - cc) / 4294967296, zs.set k ((4294967296 + us[k] - vs[k] - cc) % 4294967296), by omega, by go_num, ?_, hg2.far (p := ⟨w.heap.size, k, none⟩) (by simp) _, h9, (hbel.trans (hch.below (by omega))).setCell (p := ⟨w.heap.size, k, none⟩) (Nat.le_refl _) _⟩
          have hb2 := hq2.set_ k (Value.int IntKind.u32 (((4294967296 + us[k] - vs[k] - cc) % 4294967296 : Nat) : Int))
          rw [u32s_set] at hb2
          exact hb2
        case measure => simp [intOf]; omega
      · obtain rfl : k = vs.length := by omega
        go_wp2_with fail
        go_loopw [10] (fun i wr => ∃ (k cc : Nat) (zs : List Nat), vs.length ≤ k ∧ k ≤ us.length ∧ i = .int .i64 k ∧ Blk wr w.heap.size 27 (u32s zs) ∧ Blk wr (w.heap.size + 1) 84 [.int .u64 (cc : Int)] ∧ Subbed us vs k zs cc ∧ Below w.heap.size w wr) (fun i _ => us.length - (intOf i).toNat)
        case atStart => exact ⟨vs.length, cc, zs, by omega, hll, rfl, hblk, hbc, hsu, hbel⟩
        case round =>
          clear hblk hbc hsu hbel hcc
          obtain ⟨k, cc, zs, hkv, hk, rfl, hblk, hbc, hsu, hbel⟩ := hrel
          have hcc := hsu.2.1
          by_cases hlt : k < us.length
          · obtain ⟨b, off, rfl, hb, hx⟩ := hrt.at32 hlt
            have hx := (hbel.cell (p := ⟨b, off + k, none⟩) (show b < _ by omega)).trans hx
            have hxd := hdu.at_ k hlt
            have hz1 : k < zs.length := by rw [hsu.2.2.2.2]; exact hlt
            go_wp2_with fail
            refine (subtracter1_any us[k] 0 cc _ _ hxd (by omega) hcc hbc).mono ?_
            rintro e w2 ⟨rfl, hg2, hch⟩
            have hq2 := hblk.ch hch (by omega)
            have hc2 := (hq2.cell k).trans (u32s_at hz1)
            have hf2 := hq2.frozen k
            go_wp2_with fail
            go_roundw
            case rel =>
              have h9 := hsu.step hz1 hdu hdv
              rw [at0_in hlt, at0_out hkv] at h9
              refine ⟨k + 1, 1 - (4294967296 + us[k] - 0 - cc) / 4294967296, zs.set k ((4294967296 + us[k] - 0 - cc) % 4294967296), by omega, by omega, by go_num, ?_, hg2.far (p := ⟨w.heap.size, k, none⟩) (by simp) _, h9, (hbel.trans (hch.below (by omega))).setCell (p := ⟨w.heap.size, k, none⟩) (Nat.le_refl _) _⟩
              have hb2 := hq2.set_ k (Value.int IntKind.u32 (((4294967296 + us[k] - 0 - cc) % 4294967296 : Nat) : Int))
              rw [u32s_set] at hb2
              exact hb2
            case measure => simp [intOf]; omega
          · obtain rfl : k = us.length := by omega
            have hl2 : Hid (zs.length = us.length) := hsu.2.2.2.2
            have hm2 : zs.length ≤ 281474976710656 := by have := hl2.out; omega
            have Hlv : Hid (val 4294967296 zs = m - n) := by
              have := hsu.last hdu hdv Hle.out
              rw [Hm.out, Hn.out] at this
              exact this
            have hrd := (Res.of_blk0 hblk (Nat.le_refl _) (by rw [u32s_length]; omega)).rd
            go_wp2_with (go_at_call 103; rw [← hl2.out]; refine (trim_any _ _ zs _ _ hrd (Nat.le_refl _) hm2).mono ?_; rintro e w3 ⟨rfl, rfl⟩)
            go_ret2
            have hge := Hge.out
            refine ⟨trimL zs, _, _, by rw [if_neg (by omega)]; rfl, ?_, ?_, hbel⟩
            · have hz := Num.of_trim hsu.1
              rw [Hlv.out] at hz
              exact hz
            · have h3 := (Res.of_blk0 hblk (Nat.le_refl _) (by rw [u32s_length]; omega)).take (trimL zs).length
              rw [← u32s_trim, u32s_length] at h3
              exact h3

theorem mul_T {b : Nat} {us : List Nat} {k v : Nat} (hu : k < us.length) : val b (us.take k) * v + b ^ k * (us[k] * v) = val b (us.take (k + 1)) * v := by
  rw [val_take_succ b us k hu, Nat.add_mul, Nat.mul_assoc]
theorem carry_mul {c x v : Nat} {B : Nat} (hc : c < B) (hx : x < B) (hv : v < B) : (c + x * v) / B < B := by
  rw [Nat.div_lt_iff_lt_mul (by omega)]
  have h1 : x * v ≤ (B - 1) * (B - 1) := Nat.mul_le_mul (by omega) (by omega)
  obtain ⟨q, rfl⟩ : ∃ q, B = q + 1 := ⟨B - 1, by omega⟩
  have h2 : (q + 1) * (q + 1) = q * q + q + q + 1 := by rw [Nat.add_mul, Nat.mul_add]; omega
  rw [h2]
  simp only [Nat.add_sub_cancel] at h1
  omega

set_option maxHeartbeats 1600000 in
theorem shortMul_any (A : Option Addr) (c : Nat) (us : List Nat) (v : Nat) (w : World) (B : Nat) (hru : Rd w B A (u32s us)) (hB : B ≤ w.heap.size) (hdu : Dig 4294967296 us) (hv : v < 4294967296) (hm : us.length ≤ 70368744170000) :
    Calls Tryz.prog 117 #[.slice A us.length c, .int .u32 (v : Int)] w fun e w' => ∃ zs A' c', e = .returned (.slice A' zs.length c') ∧ Num 4294967296 zs (val 4294967296 us * v) ∧ Res w' w.heap.size 27 A' c' (u32s zs) ∧ Below w.heap.size w w' := by
  have hmk := fun W => mk32s us.length (by omega) W
  go_enter Tryz.func117, Tryz.ntmps117
  go_wp2_with (go_at_call 143; (with_reducible refine (scaler_any _ _).mono ?_); rintro e w1 ⟨rfl, hbn, hbc, hsz, hbel⟩)
  rw [szA] at hbn hbc hsz hbel
  have hblk0 : Blk w1 w.heap.size 27 (u32s (List.replicate (us.length + 1) 0)) := by
    have h0 : Blk (w.alloc (.cells (Array.replicate (us.length + 1) (Value.int .u32 0)) 27)) w.heap.size 27 (u32s (List.replicate (us.length + 1) 0)) := Blk.new_ (by simp [u32s])
    exact h0.below hbel (by omega)
  have hbel1 : Below w.heap.size w w1 := ((Below.refl _ _).alloc (Nat.le_refl _) _).trans (hbel.mono (by omega))
  clear hbel hsz
  obtain ⟨os, hos⟩ : ∃ os, os = List.replicate (us.length + 1) 0 := ⟨_, rfl⟩
  have hol : os.length = us.length + 1 := by rw [hos]; simp
  have ho0 : Hid (∀ k (h : k < os.length), os[k] = 0) := by subst hos; exact fun k h => by simp
  have hov : Hid (val 4294967296 os = 0) := by rw [hos]; exact val_zeros _ _
  have hod : Dig 4294967296 os := by rw [hos]; exact Dig.zeros_ (by omega) _
  rw [← hos] at hblk0
  have Hol := Lib.hid hol
  clear hos hol
  go_loopw [7, 8, 17] (fun _ _ i wr => ∃ (k cc : Nat) (zs : List Nat), k ≤ us.length ∧ i = .int .i64 k ∧ cc < 4294967296 ∧ Blk wr w.heap.size 27 (u32s zs) ∧ Blk wr (w.heap.size + 1) 27 [.int .u32 (v : Int)] ∧ Blk wr (w.heap.size + 1 + 1) 84 [.int .u64 (cc : Int)] ∧ Acc 4294967296 os (val 4294967296 (us.take k) * v) k zs cc ∧ Below w.heap.size w wr) (fun _ _ i _ => us.length - (intOf i).toNat)
  case atStart => exact ⟨0, 0, os, by omega, rfl, by omega, hblk0, hbn, hbc, by simpa [val] using Acc.start hod, hbel1⟩
  case round =>
    clear hblk0 hbc hbn hbel1
    obtain ⟨k, cc, zs, hk, rfl, hcc, hblk, hbn, hbc, hacc, hbel⟩ := hrel
    by_cases hlt : k < us.length
    · obtain ⟨b, off, rfl, hb, hx⟩ := hru.at32 hlt
      have hx := (hbel.cell (p := ⟨b, off + k, none⟩) (show b < _ by omega)).trans hx
      have hxd := hdu.at_ k hlt
      have hz1 : k < zs.length := by have := hacc.2.1.trans Hol.out; omega
      have hko : k < os.length := by have := Hol.out; omega
      go_wp2_with (go_at_call 155; (with_reducible refine (scaler1_any _ v cc _ _ _ hxd hv hcc hbc hbn (by omega)).mono ?_); rintro e w2 ⟨rfl, hg2, hch⟩; have hq2 := hblk.ch hch (by omega); have hc2 := (hq2.cell k).trans (u32s_at hz1); have hf2 := hq2.frozen k)
      go_roundw
      case rel =>
        have h9 := hacc.step (d := us[k] * v) (r := (cc + us[k] * v) % 4294967296) (q := (cc + us[k] * v) / 4294967296) hko (by omega) (by rw [ho0.out k hko]; omega)
        rw [mul_T hlt] at h9
        refine ⟨k + 1, (cc + us[k] * v) / 4294967296, zs.set k ((cc + us[k] * v) % 4294967296), by omega, by go_num, carry_mul hcc hxd hv, ?_, (hbn.ch hch (by omega)).far (p := ⟨w.heap.size, k, none⟩) (by simp) _, hg2.far (p := ⟨w.heap.size, k, none⟩) (by simp; omega) _, h9, (hbel.trans (hch.below (by omega))).setCell (p := ⟨w.heap.size, k, none⟩) (Nat.le_refl _) _⟩
        have hb2 := hq2.set_ k (Value.int IntKind.u32 (((cc + us[k] * v) % 4294967296 : Nat) : Int))
        rw [u32s_set] at hb2
        exact hb2
      case measure => simp [intOf]; omega
    · obtain rfl : k = us.length := by omega
      have hz1 : us.length < zs.length := by have := hacc.2.1.trans Hol.out; omega
      have hko : us.length < os.length := by have := Hol.out; omega
      go_wp2_with fail
      refine (scaler1_any 0 v cc _ _ _ (by omega) hv hcc hbc hbn (by omega)).mono ?_
      rw [show cc + 0 * v = cc from by omega]
      rintro e w2 ⟨rfl, hg2, hch⟩
      have hq2 := hblk.ch hch (by omega)
      have hc2 := (hq2.cell us.length).trans (u32s_at hz1)
      have hf2 := hq2.frozen us.length
      have hb2 : Blk (w2.setCell ⟨w.heap.size, us.length, none⟩ (.int .u32 ((cc % 4294967296 : Nat) : Int))) w.heap.size 27 (u32s (zs.set us.length (cc % 4294967296))) := by
        have := hq2.set_ us.length (Value.int IntKind.u32 ((cc % 4294967296 : Nat) : Int))
        rwa [u32s_set] at this
      have h9 := hacc.step (d := 0) (r := cc % 4294967296) (q := cc / 4294967296) hko (by omega) (by rw [ho0.out _ hko]; omega)
      obtain ⟨zs2, hzs2⟩ : ∃ zs2, zs2 = zs.set us.length (cc % 4294967296) := ⟨_, rfl⟩
      rw [← hzs2] at hb2 h9
      have hl2 : Hid (zs2.length = us.length + 1) := h9.2.1.trans Hol.out
      have hm2 : zs2.length ≤ 281474976710656 := by have := hl2.out; omega
      have Hlv : Hid (val 4294967296 zs2 = val 4294967296 us * v) := by
        have := h9.done (by omega)
        rw [hov.out, List.take_length, Nat.mul_zero, Nat.add_zero, Nat.zero_add] at this
        exact this
      have ld := h9.1
      have hbel3 := (hbel.trans (hch.below (B := w.heap.size) (by omega))).setCell (p := ⟨w.heap.size, us.length, none⟩) (Nat.le_refl _) (.int .u32 ((cc % 4294967296 : Nat) : Int))
      clear hzs2 h9
      have hrd := (Res.of_blk0 hb2 (Nat.le_refl _) (by rw [u32s_length]; omega)).rd
      go_wp2_with (go_at_call 103; rw [← hl2.out]; refine (trim_any _ _ zs2 _ _ hrd (Nat.le_refl _) hm2).mono ?_; rintro e w3 ⟨rfl, rfl⟩)
      go_ret
      refine ⟨trimL zs2, _, _, rfl, ?_, ?_, hbel3⟩
      · have hz := Num.of_trim ld
        rw [Hlv.out] at hz
        exact hz
      · have h3 := (Res.of_blk0 hb2 (Nat.le_refl _) (by rw [u32s_length]; omega)).take (trimL zs2).length
        rw [← u32s_trim, u32s_length] at h3
        exact h3
end
end Go.Proofs.YtadpelhmjmamnaaGreatDoor
