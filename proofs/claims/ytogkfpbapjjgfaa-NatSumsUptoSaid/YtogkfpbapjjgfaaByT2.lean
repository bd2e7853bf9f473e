/- The walk of byTransform. Conditions: at most 2^29 words together. -/
import Derived.Test.YtogkfpbapjjgfaaByT
import Derived.Deep.RegionWith
namespace Go.Proofs.Ytogkfpbapjjgfaa
open Go.RowKit

set_option maxHeartbeats 3200000 in
set_option maxRecDepth 100000 in
theorem byTransform_any (A A2 : Option Addr) (c c2 : Nat) (us vs : List Nat) (w : World) (B : Nat) (hr : Rd w B A (u64s us)) (hr2 : Rd w B A2 (u64s vs)) (hB : B ≤ w.heap.size) (hd : Dig 18446744073709551616 us) (hd2 : Dig 18446744073709551616 vs) (h1 : 1 ≤ us.length + vs.length) (hm : us.length + vs.length ≤ 536870912) :
    Calls Try.prog 54 #[.slice A us.length c, .slice A2 vs.length c2] w fun e w' => Words w w' (us.length + vs.length) (val 18446744073709551616 us * val 18446744073709551616 vs) e := by
  have HP := Lib.hid (prod_lt hd hd2 (by omega))
  go_enter Try.func54, Try.ntmps54
  go_wp2_with fail
  go_loop [5] (fun sv => ∃ k s : Nat, sv = .int .i64 s ∧ Hid (s = 2 ^ k) ∧ 1 ≤ s ∧ (s = 1 ∨ s < 8 * (us.length + vs.length))) (fun sv => 4 * (us.length + vs.length) - (intOf sv).toNat)
  case atStart => exact ⟨0, 1, rfl, rfl, by omega, Or.inl rfl⟩
  case round =>
    obtain ⟨k, s, rfl, Hs, hs1, hs8⟩ := hrel
    by_cases hlt : s < 4 * (us.length + vs.length)
    · have t1 : decide ((s : Int) < 4 * ((us.length : Int) + (vs.length : Int))) = true := by simp; omega
      go_wp2_with fail
      go_round
      case rel => exact ⟨k + 1, 2 * s, by go_num, by show 2 * s = _; rw [Nat.pow_succ, ← Hs.out]; omega, by omega, Or.inr (by omega)⟩
      case measure => simp [intOf]; omega
    · have t1 : decide ((s : Int) < 4 * ((us.length : Int) + (vs.length : Int))) = false := by simp; omega
      have hs32 : s < 4294967296 := by omega
      have hs4 : 4 ≤ s := by omega
      have hk32 : k ≤ 32 := by
        rcases Nat.lt_or_ge 32 k with h9 | h9
        · exfalso
          have := Nat.pow_le_pow_right (show 0 < 2 by omega) h9
          rw [← Hs.out] at this
          have e : (2 : Nat) ^ (32 + 1) = 8589934592 := rfl
          omega
        · exact h9
      have hk1 : 1 ≤ k := by
        rcases Nat.eq_zero_or_pos k with h9 | h9
        · exfalso; have := Hs.out; rw [h9] at this; omega
        · exact h9
      obtain ⟨h, hh⟩ : ∃ h, h = 2 ^ (k - 1) := ⟨_, rfl⟩
      have hsh : s = 2 * h := by rw [Hs.out, hh, ← Nat.pow_succ']; congr 1; omega
      have hh1 : 1 ≤ h := by omega
      have hhb : h ≤ 4294967296 := by omega
      have Hh := Lib.hid hh
      have Hsh := Lib.hid hsh
      clear hh hsh hs8
      obtain ⟨E, hE⟩ : ∃ E, E = rootE k := ⟨_, rfl⟩
      have hEb : E < 18446744073709551616 := by rw [hE]; exact rootE_lt k
      have hE2 : E = 18446744069414584320 / s := by rw [hE, Hs.out]; rfl
      have hEp : E ≤ 18446744069414584320 := by rw [hE2]; exact Nat.div_le_self _ _
      have q1 : (18446744069414584320 : Int) / (s : Int) = (E : Int) := by rw [hE2]; exact (Int.natCast_ediv _ _).symm
      have q1t : (18446744069414584320 : Int).tdiv (s : Int) = (E : Int) := by rw [Int.tdiv_eq_ediv_of_nonneg (by omega), q1]
      obtain ⟨E2, hE2'⟩ := nameIt (18446744069414584320 - E)
      have q2 : (18446744069414584320 : Int) - (E : Int) = (E2 : Int) := by omega
      have HE := Lib.hid hE
      have HE2 : Hid (E2 = 18446744069414584320 - rootE k) := by show E2 = _; rw [← hE]; exact hE2'
      have hE2b : E2 < 18446744073709551616 := by omega
      have hne : ¬ ((s : Int) = 0) := by omega
      have hne2 : ((s : Int) == 0) = false := by simp; omega
      clear hE hE2 hE2'
      go_wp2_with fail
      refine (fieldPow_any 7 E (by omega) hEb _).mono ?_
      rintro e w0 ⟨r1, rfl, hr1, rfl⟩
      have hr1p : r1 < 18446744069414584321 := by rw [hr1]; exact Nat.mod_lt _ (by omega)
      have Hr1 := Lib.hid hr1
      clear hr1
      go_wp2_with fail
      refine (rootsOf_any s h r1 Hsh.out hh1 hr1p (by omega) _).mono ?_
      rintro e w1 ⟨rs, gr, rfl, hrl, hrp, hrz, hgr, hbr, hb1⟩
      have Hrl := Lib.hid hrl
      have Hrz := Lib.hid hrz
      have Hrp : Hid (∀ v ∈ rs, v < 18446744069414584321) := hrp
      clear hrl hrz hrp
      go_wp2_with fail
      refine (digitsOf_any A c us s w1 B (hr.below (hb1.mono hB)) (Nat.le_trans hB hb1.size) hd (by omega) (by omega)).mono ?_
      rintro e w2 ⟨gx, rfl, hgx, hbx, hb2⟩
      go_wp2_with fail
      have hb12 := hb1.trans (hb2.mono hb1.size)
      refine (digitsOf_any A2 c2 vs s w2 B (hr2.below (hb12.mono hB)) (Nat.le_trans hB hb12.size) hd2 (by omega) (by omega)).mono ?_
      rintro e w3 ⟨gy, rfl, hgy, hby, hb3⟩
      have l1 := hbr.lt
      have l2 := hbx.lt
      have n1 : gr ≠ gx := by omega
      have n2 : gr ≠ gy := by omega
      have n3 : gx ≠ gy := by omega
      have hgx0 : w.heap.size ≤ gx := by have := hb1.size; omega
      have hgy0 : w.heap.size ≤ gy := by have := hb12.size; omega
      have hB3 := hb12.trans (hb3.mono hb12.size)
      have hbr3 := (hbr.below hb2 l1).below hb3 (by omega)
      have hbx3 := hbx.below hb3 l2
      have hdx := digs_le us
      have hdy := digs_le vs
      have lx := digs_length us
      have ly := digs_length vs
      obtain ⟨dx, hdxe⟩ : ∃ dx, dx = digs us := ⟨_, rfl⟩
      obtain ⟨dy, hdye⟩ : ∃ dy, dy = digs vs := ⟨_, rfl⟩
      have vx := digs_val us hd
      have vy := digs_val vs hd2
      rw [← hdxe] at hbx3 hdx lx vx
      rw [← hdye] at hby hdy ly vy
      have plx : (dx ++ List.replicate (s - 4 * us.length) 0).length = s := by rw [List.length_append, lx, List.length_replicate]; omega
      have ply : (dy ++ List.replicate (s - 4 * vs.length) 0).length = s := by rw [List.length_append, ly, List.length_replicate]; omega
      have Hsx := scatter_any gx _ rs k (some ⟨gr, 0, none⟩) rs.length w3 hbx3 (rx_whole hbr3 n1) hk1 (by omega) (by rw [plx]; exact Hs.out) (by rw [Hrl.out]; exact Hh.out) (pad_lt hdx _) Hrp.out
      rw [plx] at Hsx
      have Hdx : Hid (∀ v ∈ dx, v ≤ 65535) := hdx
      have Hdy : Hid (∀ v ∈ dy, v ≤ 65535) := hdy
      have Hlx := Lib.hid lx
      have Hly := Lib.hid ly
      have Hvx := Lib.hid vx
      have Hvy := Lib.hid vy
      have Hply := Lib.hid ply
      clear hdx hdy lx ly vx vy plx ply hdxe hdye hbx hbr hb1 hb2 hb3 hb12 l1 l2 hgx hgy hgr
      go_wp2_with fail
      refine Hsx.mono ?_
      rintro e w4 ⟨x2, rfl, hrowx, hbx4, htn4⟩
      have hbr4 := hbr3.tn htn4 n1
      have hby4 := hby.tn htn4 n3.symm
      have hB4 := hB3.trans (htn4.below hgx0 hB3.size)
      have Hsy := scatter_any gy _ rs k (some ⟨gr, 0, none⟩) rs.length w4 hby4 (rx_whole hbr4 n2) hk1 (by omega) (by rw [Hply.out]; exact Hs.out) (by rw [Hrl.out]; exact Hh.out) (pad_lt Hdy.out _) Hrp.out
      rw [Hply.out] at Hsy
      clear Hsx hbx3 hby hbr3 htn4 hB3
      go_wp2_with fail
      refine Hsy.mono ?_
      rintro e w5 ⟨y2, rfl, hrowy, hby5, htn5⟩
      have hbx5 := hbx4.tn htn5 n3
      have hB5 := hB4.trans (htn5.below hgy0 hB4.size)
      clear Hsy hbx4 hby4 hbr4 htn5 hB4
      rw [fl_pad] at hrowx hrowy
      obtain ⟨S, hS⟩ : ∃ S, S = sAll (rtsL rs k) k k (fl dx) := ⟨_, rfl⟩
      obtain ⟨T, hT⟩ : ∃ T, T = sAll (rtsL rs k) k k (fl dy) := ⟨_, rfl⟩
      rw [← hS, ← Hs.out] at hrowx
      rw [← hT, ← Hs.out] at hrowy
      have HS := Lib.hid hS
      have HT := Lib.hid hT
      clear hS hT
      go_wp2_with fail
      go_loopw [9, 40] (fun _ iv wr => ∃ (i : Nat) (zs : List Nat), i ≤ s ∧ iv = .int .i64 i ∧ Prod S T s i zs ∧ Blk wr gx 44 (u64s zs) ∧ Blk wr gy 44 (u64s y2) ∧ Below w.heap.size w wr) (fun _ iv _ => s - (intOf iv).toNat)
      case atStart => exact ⟨0, x2, by omega, rfl, Prod.start hrowx, hbx5, hby5, hB5⟩
      case round =>
        clear hrowx hbx5 hby5 hB5
        obtain ⟨i, zs, hi, rfl, hpr, hbx6, hby6, hB6⟩ := hrel
        by_cases his : i < s
        · have i1 : i < zs.length := by rw [hpr.1]; exact his
          have i2 : i < y2.length := by rw [hrowy.1]; exact his
          have hzp := p_lt zs hpr.2.1 i i1
          have hyp := p_lt y2 hrowy.2.1 i i2
          have ez : ph zs[i] = S i := by rw [hpr.2.2 i i1, if_neg (by omega)]
          have ey : ph y2[i] = T i := hrowy.2.2 i i2
          have cz := (hbx6.cell i).trans (u64s_at i1)
          have cy := (hby6.cell i).trans (u64s_at i2)
          have fz := hbx6.frozen i
          have hmul := fun W => fieldMul_any zs[i] y2[i] (by omega) (by omega) W
          obtain ⟨a, hae⟩ : ∃ a, a = zs[i] * y2[i] % 18446744069414584321 := ⟨_, rfl⟩
          rw [← hae] at hmul
          have hap : a < 18446744069414584321 := by rw [hae]; exact Nat.mod_lt _ (by omega)
          have ea : ph a = S i * T i := by rw [hae, ph_mod, ph_mul, ez, ey]
          have Hmul := Lib.hid hmul
          have hst := hpr.step hap ea
          have Hst := Lib.hid hst
          have Hea := Lib.hid ea
          clear hae hmul ez ey ea hst
          go_upto_region 11 with (fail)
          go_region_with (go_at_call 72; (with_reducible refine (Hmul.out _).mono ?_); rintro e w' ⟨rfl, rfl⟩)
          all_goals
            go_wp2_with fail
            go_roundw
            case rel =>
              have hb := hbx6.set_ i (.int .u64 (a : Int))
              rw [u64s_set] at hb
              exact ⟨i + 1, zs.set i a, by omega, by go_num, Hst.out, by first | exact hb | exact hb.drew, by first | exact hby6.far (p := ⟨gx, i, none⟩) n3.symm _ | exact (hby6.far (p := ⟨gx, i, none⟩) n3.symm _).drew, by first | exact hB6.setCell (p := ⟨gx, i, none⟩) hgx0 _ | exact (hB6.setCell (p := ⟨gx, i, none⟩) hgx0 _).drew⟩
            case measure => simp [intOf]; omega
        · have hie : i = s := by omega
          rw [hie] at hpr
          have hrowp := hpr.done
          have hzl := hrowp.1
          have hzp := hrowp.2.1
          have Hflp := Lib.hid (fl_row hrowp)
          have Hzl := Lib.hid hzl
          have Hzp : Hid (∀ v ∈ zs, v < 18446744069414584321) := hzp
          have t5 : s ≤ i := by omega
          clear hie hpr hrowp hzl hzp hrowy
          go_wp2_with fail
          refine (fieldPow_any 7 E2 (by omega) hE2b _).mono ?_
          rintro e w7 ⟨r2, rfl, hr2e, rfl⟩
          have hr2p : r2 < 18446744069414584321 := by rw [hr2e]; exact Nat.mod_lt _ (by omega)
          have Hr2 := Lib.hid hr2e
          clear hr2e
          go_wp2_with fail
          refine (rootsOf_any s h r2 Hsh.out hh1 hr2p (by omega) _).mono ?_
          rintro e w8 ⟨rs2, gr2, rfl, hrl2, hrp2, hrz2, hgr2, hbr2, hb8⟩
          have Hrl2 := Lib.hid hrl2
          have Hrz2 := Lib.hid hrz2
          have l6 := hbx6.lt
          have n5 : gr2 ≠ gx := by omega
          have hbx8 := hbx6.below hb8 l6
          have hB8 := hB6.trans (hb8.mono hB6.size)
          have Hga := gather_any gx zs rs2 k (some ⟨gr2, 0, none⟩) rs2.length w8 hbx8 (rx_whole hbr2 n5) hk1 (by omega) (by rw [Hzl.out]; exact Hs.out) (by rw [Hrl2.out]; exact Hh.out) Hzp.out hrp2
          rw [Hzl.out] at Hga
          clear hrl2 hrz2 hbx6 hby6 hB6 hb8 hbx8
          go_wp2_with fail
          refine Hga.mono ?_
          rintro e w9 ⟨u, rfl, hrowu, hbu, htn9⟩
          have hB9 := hB8.trans (htn9.below hgx0 hB8.size)
          clear Hga htn9 hB8 hbr2
          obtain ⟨e0, he0⟩ : ∃ e0, e0 + 1 = 18446744069414584320 := ⟨18446744069414584319, rfl⟩
          have hp3 := fun W => fieldPow_any s e0 (by omega) (by omega) W
          rw [show (e0 : Int) = 18446744069414584319 from by omega] at hp3
          have Hp3 := Lib.hid hp3
          clear hp3
          go_wp2_with fail
          refine (Hp3.out _).mono ?_
          rintro e w10 ⟨r3, rfl, hr3, rfl⟩
          have hr3p : r3 < 18446744069414584321 := by rw [hr3]; exact Nat.mod_lt _ (by omega)
          have hul : u.length = s := hrowu.1.trans Hs.out.symm
          have hall : ∀ j, j < 2 ^ k → u.getD j 0 * ((2 ^ k) ^ e0 % 18446744069414584321) % 18446744069414584321 = (mulL dx dy).getD j 0 := by
            refine ntt_out k e0 he0 hk1 hk32 dx dy 65535 Hdx.out Hdy.out (by rw [Hlx.out, Hly.out, ← Hs.out]; omega) (by rw [Hlx.out]; omega) (fl zs) (fun j hj => ?_) (fun j => u.getD j 0) (fun j hj => ?_)
            · have hj2 : j < s := by rw [Hs.out]; exact hj
              rw [Hflp.out j hj2]
              show (if j < s then S j * T j else 0) = _
              rw [if_pos hj2, HS.out, HT.out]
              rw [sAll_rt (rtsL rs k) (rtsOf (ph 7 ^ rootE k) k) _ (rtsL_of (by rw [← HE.out]; exact Hr1.out) (by rw [Hrl.out]; exact Hh.out) Hrz.out) k (Nat.le_refl _), sAll_rt (rtsL rs k) (rtsOf (ph 7 ^ rootE k) k) _ (rtsL_of (by rw [← HE.out]; exact Hr1.out) (by rw [Hrl.out]; exact Hh.out) Hrz.out) k (Nat.le_refl _)]
            · have hj2 : j < u.length := by rw [hrowu.1]; exact hj
              show ph (u.getD j 0) = _
              rw [List.getD_eq_getElem?_getD, List.getElem?_eq_getElem hj2]
              show ph u[j] = _
              rw [hrowu.2.2 j hj2]
              rw [gAll_rt (rtsL rs2 k) (rtsOf (ph 7 ^ (18446744069414584320 - rootE k)) k) _ (rtsL_of (by rw [← HE2.out]; exact Hr2.out) (by rw [Hrl2.out]; exact Hh.out) Hrz2.out) k (Nat.le_refl _)]
          have lz : (mulL dx dy).length = 4 * (us.length + vs.length) := by rw [mulL_length, Hlx.out, Hly.out]; omega
          have vz : val 65536 (mulL dx dy) = val 18446744073709551616 us * val 18446744073709551616 vs := by rw [val_mulL, Hvx.out, Hvy.out]
          have hca := carried_any (some ⟨gx, 0, none⟩) s u (mulL dx dy) r3 (us.length + vs.length) w9 w9.heap.size (Rd.of_blk hbu hbu.lt 0 (fun k v hv => by rw [Nat.zero_add]; exact hv)) (Nat.le_refl _) (fun v hv => by have := hrowu.2.1 v hv; omega) (by omega) (by rw [hul]; omega) lz (fun i hi hi2 => by
            have h9 := hall i (by rw [← Hs.out, ← hul]; exact hi)
            rw [List.getD_eq_getElem?_getD, List.getElem?_eq_getElem hi, List.getD_eq_getElem?_getD, List.getElem?_eq_getElem hi2] at h9
            rw [hr3, Hs.out]
            exact h9) (by rw [vz]; exact HP.out) (by omega)
          rw [vz, hul, show ((us.length + vs.length : Nat) : Int) = (us.length : Int) + (vs.length : Int) from by omega] at hca
          have Hca := Lib.hid hca
          clear hca hall lz vz hul hr3
          go_wp2_with fail
          refine Hca.out.mono ?_
          rintro e w11 ⟨zs2, g2, rfl, hzl2, hzd2, hzv2, hg2, hb2', hbel2⟩
          have Hzl2 := Lib.hid hzl2
          clear hzl2
          go_wp2_with fail
          go_ret
          exact ⟨zs2, g2, rfl, Hzl2.out, hzd2, hzv2, Nat.le_trans hB9.size hg2, hb2', hB9.trans (hbel2.mono hB9.size)⟩
end Go.Proofs.Ytogkfpbapjjgfaa
