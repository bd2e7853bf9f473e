/- The walk of byTransform. Conditions: at most 2^29 words together. The contract of product, for all words: by induction on their number. Conditions: at most 2^29 words together. The contract of threeByTwo, given that of twoByOne for half as many words. Conditions: words; the divisor's top bit; at most 2^28 words. The contracts of takeRow and guess. Conditions: words; the divisor's top word is not below what is divided. -/
import Derived.Test.YtogkfpbapjjgfaaDoorPkDv10
import Derived.Deep.RegionWith
import Derived.Test.YtogkfpbapjjgfaaDoorPkDv8
import Derived.Deep.LoopGhost
import Derived.Test.YtogkfpbapjjgfaaDoorPkDv2
import Derived.Test.YtogkfpbapjjgfaaDoorPkDv3
import Derived.WalkMore
namespace Go.Proofs.YtogkfpbapjjgfaaDoor
section
open Go.RowKit

set_option maxHeartbeats 3200000 in
set_option maxRecDepth 100000 in
theorem byTransform_any (A A2 : Option Addr) (c c2 : Nat) (us vs : List Nat) (w : World) (B : Nat) (hr : Rd w B A (u64s us)) (hr2 : Rd w B A2 (u64s vs)) (hB : B ≤ w.heap.size) (hd : Dig 18446744073709551616 us) (hd2 : Dig 18446744073709551616 vs) (h1 : 1 ≤ us.length + vs.length) (hm : us.length + vs.length ≤ 536870912) :
    Calls Tryd.prog 85 #[.slice A us.length c, .slice A2 vs.length c2] w fun e w' => Words w w' (us.length + vs.length) (val 18446744073709551616 us * val 18446744073709551616 vs) e := by
  have HP := Lib.hid (prod_lt hd hd2 (by omega))
  go_enter Tryd.func85, Tryd.ntmps85
  go_wp2_with fail
  go_loop [5] (fun sv => ∃ k s : Nat, sv = .int .i64 s ∧ Hid (s = 2 ^ k) ∧ 1 ≤ s ∧ (s = 1 ∨ s < 8 * (us.length + vs.length))) (fun sv => 4 * (us.length + vs.length) - (intOf sv).toNat)
  case atStart => exact ⟨0, 1, rfl, rfl, by omega, Or.inl rfl⟩
  case round =>
    obtain ⟨k, s, rfl, Hs, hs1, hs8⟩ := hrel
    by_cases hlt : s < 4 * (us.length + vs.length)
    · have t1 : decide ((s : Int) < 4 * ((us.length : Int) + (vs.length : Int))) = true := by simp; omega
      go_wp2_with fail
      go_round
      case rel => exact ⟨k + 1, 2 * s, by go_num, by show 2 * s = _; rw [Nat.pow_succ, ← Hs.out]; omega, by omega, Or.inr (by omega)⟩
      case measure => simp [intOf]; omega
    · have t1 : decide ((s : Int) < 4 * ((us.length : Int) + (vs.length : Int))) = false := by simp; omega
      have hs32 : s < 4294967296 := by omega
      have hs4 : 4 ≤ s := by omega
      have hk32 : k ≤ 32 := by
        rcases Nat.lt_or_ge 32 k with h9 | h9
        · exfalso
          have := Nat.pow_le_pow_right (show 0 < 2 by omega) h9
          rw [← Hs.out] at this
          have e : (2 : Nat) ^ (32 + 1) = 8589934592 := rfl
          omega
        · exact h9
      have hk1 : 1 ≤ k := by
        rcases Nat.eq_zero_or_pos k with h9 | h9
        · exfalso; have := Hs.out; rw [h9] at this; omega
        · exact h9
      obtain ⟨h, hh⟩ : ∃ h, h = 2 ^ (k - 1) := ⟨_, rfl⟩
      have hsh : s = 2 * h := by rw [Hs.out, hh, ← Nat.pow_succ']; congr 1; omega
      have hh1 : 1 ≤ h := by omega
      have hhb : h ≤ 4294967296 := by omega
      have Hh := Lib.hid hh
      have Hsh := Lib.hid hsh
      clear hh hsh hs8
      obtain ⟨E, hE⟩ : ∃ E, E = rootE k := ⟨_, rfl⟩
      have hEb : E < 18446744073709551616 := by rw [hE]; exact rootE_lt k
      have hE2 : E = 18446744069414584320 / s := by rw [hE, Hs.out]; rfl
      have hEp : E ≤ 18446744069414584320 := by rw [hE2]; exact Nat.div_le_self _ _
      have q1 : (18446744069414584320 : Int) / (s : Int) = (E : Int) := by rw [hE2]; exact (Int.natCast_ediv _ _).symm
      have q1t : (18446744069414584320 : Int).tdiv (s : Int) = (E : Int) := by rw [Int.tdiv_eq_ediv_of_nonneg (by omega), q1]
      obtain ⟨E2, hE2'⟩ := nameIt (18446744069414584320 - E)
      have q2 : (18446744069414584320 : Int) - (E : Int) = (E2 : Int) := by omega
      have HE := Lib.hid hE
      have HE2 : Hid (E2 = 18446744069414584320 - rootE k) := by show E2 = _; rw [← hE]; exact hE2'
      have hE2b : E2 < 18446744073709551616 := by omega
      have hne : ¬ ((s : Int) = 0) := by omega
      have hne2 : ((s : Int) == 0) = false := by simp; omega
      clear hE hE2 hE2'
      go_wp2_with fail
      refine (fieldPow_any 7 E (by omega) hEb _).mono ?_
      rintro e w0 ⟨r1, rfl, hr1, rfl⟩
      have hr1p : r1 < 18446744069414584321 := by rw [hr1]; exact Nat.mod_lt _ (by omega)
      have Hr1 := Lib.hid hr1
      clear hr1
      go_wp2_with fail
      refine (rootsOf_any s h r1 Hsh.out hh1 hr1p (by omega) _).mono ?_
      rintro e w1 ⟨rs, gr, rfl, hrl, hrp, hrz, hgr, hbr, hb1⟩
      have Hrl := Lib.hid hrl
      have Hrz := Lib.hid hrz
      have Hrp : Hid (∀ v ∈ rs, v < 18446744069414584321) := hrp
      clear hrl hrz hrp
      go_wp2_with fail
      refine (digitsOf_any A c us s w1 B (hr.below (hb1.mono hB)) (Nat.le_trans hB hb1.size) hd (by omega) (by omega)).mono ?_
      rintro e w2 ⟨gx, rfl, hgx, hbx, hb2⟩
      go_wp2_with fail
      have hb12 := hb1.trans (hb2.mono hb1.size)
      refine (digitsOf_any A2 c2 vs s w2 B (hr2.below (hb12.mono hB)) (Nat.le_trans hB hb12.size) hd2 (by omega) (by omega)).mono ?_
      rintro e w3 ⟨gy, rfl, hgy, hby, hb3⟩
      have l1 := hbr.lt
      have l2 := hbx.lt
      have n1 : gr ≠ gx := by omega
      have n2 : gr ≠ gy := by omega
      have n3 : gx ≠ gy := by omega
      have hgx0 : w.heap.size ≤ gx := by have := hb1.size; omega
      have hgy0 : w.heap.size ≤ gy := by have := hb12.size; omega
      have hB3 := hb12.trans (hb3.mono hb12.size)
      have hbr3 := (hbr.below hb2 l1).below hb3 (by omega)
      have hbx3 := hbx.below hb3 l2
      have hdx := digs_le us
      have hdy := digs_le vs
      have lx := digs_length us
      have ly := digs_length vs
      obtain ⟨dx, hdxe⟩ : ∃ dx, dx = digs us := ⟨_, rfl⟩
      obtain ⟨dy, hdye⟩ : ∃ dy, dy = digs vs := ⟨_, rfl⟩
      have vx := digs_val us hd
      have vy := digs_val vs hd2
      rw [← hdxe] at hbx3 hdx lx vx
      rw [← hdye] at hby hdy ly vy
      have plx : (dx ++ List.replicate (s - 4 * us.length) 0).length = s := by rw [List.length_append, lx, List.length_replicate]; omega
      have ply : (dy ++ List.replicate (s - 4 * vs.length) 0).length = s := by rw [List.length_append, ly, List.length_replicate]; omega
      have Hsx := scatter_any gx _ rs k (some ⟨gr, 0, none⟩) rs.length w3 hbx3 (rx_whole hbr3 n1) hk1 (by omega) (by rw [plx]; exact Hs.out) (by rw [Hrl.out]; exact Hh.out) (pad_lt hdx _) Hrp.out
      rw [plx] at Hsx
      have Hdx : Hid (∀ v ∈ dx, v ≤ 65535) := hdx
      have Hdy : Hid (∀ v ∈ dy, v ≤ 65535) := hdy
      have Hlx := Lib.hid lx
      have Hly := Lib.hid ly
      have Hvx := Lib.hid vx
      have Hvy := Lib.hid vy
      have Hply := Lib.hid ply
      clear hdx hdy lx ly vx vy plx ply hdxe hdye hbx hbr hb1 hb2 hb3 hb12 l1 l2 hgx hgy hgr
      go_wp2_with fail
      refine Hsx.mono ?_
      rintro e w4 ⟨x2, rfl, hrowx, hbx4, htn4⟩
      have hbr4 := hbr3.tn htn4 n1
      have hby4 := hby.tn htn4 n3.symm
      have hB4 := hB3.trans (htn4.below hgx0 hB3.size)
      have Hsy := scatter_any gy _ rs k (some ⟨gr, 0, none⟩) rs.length w4 hby4 (rx_whole hbr4 n2) hk1 (by omega) (by rw [Hply.out]; exact Hs.out) (by rw [Hrl.out]; exact Hh.out) (pad_lt Hdy.out _) Hrp.out
      rw [Hply.out] at Hsy
      clear Hsx hbx3 hby hbr3 htn4 hB3
      go_wp2_with fail
      refine Hsy.mono ?_
      rintro e w5 ⟨y2, rfl, hrowy, hby5, htn5⟩
      have hbx5 := hbx4.tn htn5 n3
      have hB5 := hB4.trans (htn5.below hgy0 hB4.size)
      clear Hsy hbx4 hby4 hbr4 htn5 hB4
      rw [fl_pad] at hrowx hrowy
      obtain ⟨S, hS⟩ : ∃ S, S = sAll (rtsL rs k) k k (fl dx) := ⟨_, rfl⟩
      obtain ⟨T, hT⟩ : ∃ T, T = sAll (rtsL rs k) k k (fl dy) := ⟨_, rfl⟩
      rw [← hS, ← Hs.out] at hrowx
      rw [← hT, ← Hs.out] at hrowy
      have HS := Lib.hid hS
      have HT := Lib.hid hT
      clear hS hT
      go_wp2_with fail
      go_loopw [9, 40] (fun _ iv wr => ∃ (i : Nat) (zs : List Nat), i ≤ s ∧ iv = .int .i64 i ∧ Prod S T s i zs ∧ Blk wr gx 24 (u64s zs) ∧ Blk wr gy 24 (u64s y2) ∧ Below w.heap.size w wr) (fun _ iv _ => s - (intOf iv).toNat)
      case atStart => exact ⟨0, x2, by omega, rfl, Prod.start hrowx, hbx5, hby5, hB5⟩
      case round =>
        clear hrowx hbx5 hby5 hB5
        obtain ⟨i, zs, hi, rfl, hpr, hbx6, hby6, hB6⟩ := hrel
        by_cases his : i < s
        · have i1 : i < zs.length := by rw [hpr.1]; exact his
          have i2 : i < y2.length := by rw [hrowy.1]; exact his
          have hzp := p_lt zs hpr.2.1 i i1
          have hyp := p_lt y2 hrowy.2.1 i i2
          have ez : ph zs[i] = S i := by rw [hpr.2.2 i i1, if_neg (by omega)]
          have ey : ph y2[i] = T i := hrowy.2.2 i i2
          have cz := (hbx6.cell i).trans (u64s_at i1)
          have cy := (hby6.cell i).trans (u64s_at i2)
          have fz := hbx6.frozen i
          have hmul := fun W => fieldMul_any zs[i] y2[i] (by omega) (by omega) W
          obtain ⟨a, hae⟩ : ∃ a, a = zs[i] * y2[i] % 18446744069414584321 := ⟨_, rfl⟩
          rw [← hae] at hmul
          have hap : a < 18446744069414584321 := by rw [hae]; exact Nat.mod_lt _ (by omega)
          have ea : ph a = S i * T i := by rw [hae, ph_mod, ph_mul, ez, ey]
          have Hmul := Lib.hid hmul
          have hst := hpr.step hap ea
          have Hst := Lib.hid hst
          have Hea := Lib.hid ea
          clear hae hmul ez ey ea hst
          go_upto_region 11 with (fail)
          go_region_with (go_at_call 107; (with_reducible refine (Hmul.out _).mono ?_); rintro e w' ⟨rfl, rfl⟩)
          all_goals
            go_wp2_with fail
            go_roundw
            case rel =>
              have hb := hbx6.set_ i (.int .u64 (a : Int))
              rw [u64s_set] at hb
              exact ⟨i + 1, zs.set i a, by omega, by go_num, Hst.out, by first | exact hb | exact hb.drew, by first | exact hby6.far (p := ⟨gx, i, none⟩) n3.symm _ | exact (hby6.far (p := ⟨gx, i, none⟩) n3.symm _).drew, by first | exact hB6.setCell (p := ⟨gx, i, none⟩) hgx0 _ | exact (hB6.setCell (p := ⟨gx, i, none⟩) hgx0 _).drew⟩
            case measure => simp [intOf]; omega
        · have hie : i = s := by omega
          rw [hie] at hpr
          have hrowp := hpr.done
          have hzl := hrowp.1
          have hzp := hrowp.2.1
          have Hflp := Lib.hid (fl_row hrowp)
          have Hzl := Lib.hid hzl
          have Hzp : Hid (∀ v ∈ zs, v < 18446744069414584321) := hzp
          have t5 : s ≤ i := by omega
          clear hie hpr hrowp hzl hzp hrowy
          go_wp2_with fail
          refine (fieldPow_any 7 E2 (by omega) hE2b _).mono ?_
          rintro e w7 ⟨r2, rfl, hr2e, rfl⟩
          have hr2p : r2 < 18446744069414584321 := by rw [hr2e]; exact Nat.mod_lt _ (by omega)
          have Hr2 := Lib.hid hr2e
          clear hr2e
          go_wp2_with fail
          refine (rootsOf_any s h r2 Hsh.out hh1 hr2p (by omega) _).mono ?_
          rintro e w8 ⟨rs2, gr2, rfl, hrl2, hrp2, hrz2, hgr2, hbr2, hb8⟩
          have Hrl2 := Lib.hid hrl2
          have Hrz2 := Lib.hid hrz2
          have l6 := hbx6.lt
          have n5 : gr2 ≠ gx := by omega
          have hbx8 := hbx6.below hb8 l6
          have hB8 := hB6.trans (hb8.mono hB6.size)
          have Hga := gather_any gx zs rs2 k (some ⟨gr2, 0, none⟩) rs2.length w8 hbx8 (rx_whole hbr2 n5) hk1 (by omega) (by rw [Hzl.out]; exact Hs.out) (by rw [Hrl2.out]; exact Hh.out) Hzp.out hrp2
          rw [Hzl.out] at Hga
          clear hrl2 hrz2 hbx6 hby6 hB6 hb8 hbx8
          go_wp2_with fail
          refine Hga.mono ?_
          rintro e w9 ⟨u, rfl, hrowu, hbu, htn9⟩
          have hB9 := hB8.trans (htn9.below hgx0 hB8.size)
          clear Hga htn9 hB8 hbr2
          obtain ⟨e0, he0⟩ : ∃ e0, e0 + 1 = 18446744069414584320 := ⟨18446744069414584319, rfl⟩
          have hp3 := fun W => fieldPow_any s e0 (by omega) (by omega) W
          rw [show (e0 : Int) = 18446744069414584319 from by omega] at hp3
          have Hp3 := Lib.hid hp3
          clear hp3
          go_wp2_with fail
          refine (Hp3.out _).mono ?_
          rintro e w10 ⟨r3, rfl, hr3, rfl⟩
          have hr3p : r3 < 18446744069414584321 := by rw [hr3]; exact Nat.mod_lt _ (by omega)
          have hul : u.length = s := hrowu.1.trans Hs.out.symm
          have hall : ∀ j, j < 2 ^ k → u.getD j 0 * ((2 ^ k) ^ e0 % 18446744069414584321) % 18446744069414584321 = (mulL dx dy).getD j 0 := by
            refine ntt_out k e0 he0 hk1 hk32 dx dy 65535 Hdx.out Hdy.out (by rw [Hlx.out, Hly.out, ← Hs.out]; omega) (by rw [Hlx.out]; omega) (fl zs) (fun j hj => ?_) (fun j => u.getD j 0) (fun j hj => ?_)
            · have hj2 : j < s := by rw [Hs.out]; exact hj
              rw [Hflp.out j hj2]
              show (if j < s then S j * T j else 0) = _
              rw [if_pos hj2, HS.out, HT.out]
              rw [sAll_rt (rtsL rs k) (rtsOf (ph 7 ^ rootE k) k) _ (rtsL_of (by rw [← HE.out]; exact Hr1.out) (by rw [Hrl.out]; exact Hh.out) Hrz.out) k (Nat.le_refl _), sAll_rt (rtsL rs k) (rtsOf (ph 7 ^ rootE k) k) _ (rtsL_of (by rw [← HE.out]; exact Hr1.out) (by rw [Hrl.out]; exact Hh.out) Hrz.out) k (Nat.le_refl _)]
            · have hj2 : j < u.length := by rw [hrowu.1]; exact hj
              show ph (u.getD j 0) = _
              rw [List.getD_eq_getElem?_getD, List.getElem?_eq_getElem hj2]
              show ph u[j] = _
              rw [hrowu.2.2 j hj2]
              rw [gAll_rt (rtsL rs2 k) (rtsOf (ph 7 ^ (18446744069414584320 - rootE k)) k) _ (rtsL_of (by rw [← HE2.out]; exact Hr2.out) (by rw [Hrl2.out]; exact Hh.out) Hrz2.out) k (Nat.le_refl _)]
          have lz : (mulL dx dy).length = 4 * (us.length + vs.length) := by rw [mulL_length, Hlx.out, Hly.out]; omega
          have vz : val 65536 (mulL dx dy) = val 18446744073709551616 us * val 18446744073709551616 vs := by rw [val_mulL, Hvx.out, Hvy.out]
          have hca := carried_any (some ⟨gx, 0, none⟩) s u (mulL dx dy) r3 (us.length + vs.length) w9 w9.heap.size (Rd.of_blk hbu hbu.lt 0 (fun k v hv => by rw [Nat.zero_add]; exact hv)) (Nat.le_refl _) (fun v hv => by have := hrowu.2.1 v hv; omega) (by omega) (by rw [hul]; omega) lz (fun i hi hi2 => by
            have h9 := hall i (by rw [← Hs.out, ← hul]; exact hi)
            rw [List.getD_eq_getElem?_getD, List.getElem?_eq_getElem hi, List.getD_eq_getElem?_getD, List.getElem?_eq_getElem hi2] at h9
            rw [hr3, Hs.out]
            exact h9) (by rw [vz]; exact HP.out) (by omega)
          rw [vz, hul, show ((us.length + vs.length : Nat) : Int) = (us.length : Int) + (vs.length : Int) from by omega] at hca
          have Hca := Lib.hid hca
          clear hca hall lz vz hul hr3
          go_wp2_with fail
          refine Hca.out.mono ?_
          rintro e w11 ⟨zs2, g2, rfl, hzl2, hzd2, hzv2, hg2, hb2', hbel2⟩
          have Hzl2 := Lib.hid hzl2
          clear hzl2
          go_wp2_with fail
          go_ret
          exact ⟨zs2, g2, rfl, Hzl2.out, hzd2, hzv2, Nat.le_trans hB9.size hg2, hb2', hB9.trans (hbel2.mono hB9.size)⟩
end
section
open Go.RowKit

set_option maxHeartbeats 1600000 in
theorem product_all (n : Nat) : ProdOk n := by
  induction n using Nat.strongRecOn with
  | _ n ih =>
  intro A A2 c c2 us vs w B hn hr hr2 hB hd hd2 hc hc2 hm
  have Hih : Hid (∀ m, m < n → ProdOk m) := ih
  clear ih
  go_enter Tryd.func63, Tryd.ntmps63
  go_upto_if 9 with (fail)
  go_cut [0, 1] (fun s0 s1 wc => ∃ (D D2 : Option Addr) (d d2 : Nat) (xs ys : List Nat), s0 = .slice D xs.length d ∧ s1 = .slice D2 ys.length d2 ∧ ys.length ≤ xs.length ∧ Hid (xs.length + ys.length = us.length + vs.length) ∧ xs.length + ys.length ≤ n ∧ xs.length + ys.length ≤ 536870912 ∧ Dig 18446744073709551616 xs ∧ Dig 18446744073709551616 ys ∧ Hid (val 18446744073709551616 xs * val 18446744073709551616 ys = val 18446744073709551616 us * val 18446744073709551616 vs) ∧ Rd w B D (u64s xs) ∧ Rd w B D2 (u64s ys) ∧ xs.length ≤ d ∧ ys.length ≤ d2 ∧ wc = w)
  case first =>
    by_cases hlt : us.length < vs.length
    · go_wp2
      go_meet
      exact ⟨A2, A, c2, c, vs, us, rfl, rfl, by omega, Lib.hid (Nat.add_comm _ _), by omega, by omega, hd2, hd, Lib.hid (Nat.mul_comm _ _), hr2, hr, hc2, hc, rfl⟩
    · go_wp2
      go_meet
      exact ⟨A, A2, c, c2, us, vs, rfl, rfl, by omega, Lib.hid rfl, by omega, by omega, hd, hd2, Lib.hid rfl, hr, hr2, hc, hc2, rfl⟩
  case rest =>
    clear hr hr2 hd hd2 hc hc2 hm hn
    obtain ⟨D, D2, d, d2, xs, ys, rfl, rfl, hle, Hlen, hn, hm, hd, hd2, Hv, hr, hr2, hc, hc2, rfl⟩ := hcut
    by_cases h40 : ys.length < 40
    · have t1 : decide ((ys.length : Int) < 40) = true := by simp; omega
      have hcon := longProduct_any D D2 d d2 xs ys wc B hr hr2 hB hd hd2 (by omega)
      rw [Hlen.out, Hv.out] at hcon
      have Hc := Lib.hid hcon
      clear hcon
      go_wp2_with (go_at_call 82; refine Hc.out.mono ?_; rintro e w1 ⟨zs, g, rfl, hzl, hzd, hzv, hg, hblk, hbel⟩; have Hzl := Lib.hid hzl; clear hzl)
      go_ret
      exact ⟨zs, g, rfl, Hzl.out, hzd, hzv, hg, hblk, hbel⟩
    have t1 : decide ((ys.length : Int) < 40) = false := by simp; omega
    by_cases h2 : 2 * ys.length < xs.length
    · have t2 : decide (2 * (ys.length : Int) < (xs.length : Int)) = true := by simp; omega
      have hcon := piecewise_any D D2 d d2 xs ys wc B (Hih.out _ (by omega)) hr hr2 hB hd hd2 hc hc2 (by omega) hle hm
      rw [Hlen.out, Hv.out] at hcon
      have Hc := Lib.hid hcon
      clear hcon
      go_wp2_with (go_at_call 83; refine Hc.out.mono ?_; rintro e w1 ⟨zs, g, rfl, hzl, hzd, hzv, hg, hblk, hbel⟩; have Hzl := Lib.hid hzl; clear hzl)
      go_ret
      exact ⟨zs, g, rfl, Hzl.out, hzd, hzv, hg, hblk, hbel⟩
    have t2 : decide (2 * (ys.length : Int) < (xs.length : Int)) = false := by simp; omega
    by_cases h3 : ys.length < 2800
    · have t3 : decide ((ys.length : Int) < 2800) = true := by simp; omega
      have hcon := byHalves_any D D2 d d2 xs ys wc B (Hih.out _ (by omega)) hr hr2 hB hd hd2 hc hc2 (by omega) hle (by omega) hm
      rw [Hlen.out, Hv.out] at hcon
      have Hc := Lib.hid hcon
      clear hcon
      go_wp2_with (go_at_call 84; refine Hc.out.mono ?_; rintro e w1 ⟨zs, g, rfl, hzl, hzd, hzv, hg, hblk, hbel⟩; have Hzl := Lib.hid hzl; clear hzl)
      go_ret
      exact ⟨zs, g, rfl, Hzl.out, hzd, hzv, hg, hblk, hbel⟩
    · have t3 : decide ((ys.length : Int) < 2800) = false := by simp; omega
      have hcon := byTransform_any D D2 d d2 xs ys wc B hr hr2 hB hd hd2 (by omega) hm
      rw [Hlen.out, Hv.out] at hcon
      have Hc := Lib.hid hcon
      clear hcon
      go_wp2_with (go_at_call 85; refine Hc.out.mono ?_; rintro e w1 ⟨zs, g, rfl, hzl, hzd, hzv, hg, hblk, hbel⟩; have Hzl := Lib.hid hzl; clear hzl)
      go_ret
      exact ⟨zs, g, rfl, Hzl.out, hzd, hzv, hg, hblk, hbel⟩

theorem product_any (A A2 : Option Addr) (c c2 : Nat) (us vs : List Nat) (w : World) (B : Nat) (hr : Rd w B A (u64s us)) (hr2 : Rd w B A2 (u64s vs)) (hB : B ≤ w.heap.size) (hd : Dig 18446744073709551616 us) (hd2 : Dig 18446744073709551616 vs) (hc : us.length ≤ c) (hc2 : vs.length ≤ c2) (hm : us.length + vs.length ≤ 536870912) :
    Calls Tryd.prog 63 #[.slice A us.length c, .slice A2 vs.length c2] w fun e w' => Words w w' (us.length + vs.length) (val 18446744073709551616 us * val 18446744073709551616 vs) e :=
  product_all _ A A2 c c2 us vs w B (Nat.le_refl _) hr hr2 hB hd hd2 hc hc2 hm
end
section
open Go.RowKit

theorem cut_rest (A : Option Addr) (c f : Nat) (us : List Nat) (w : World) (B : Nat) (hr : Rd w B A (u64s us)) (hc : us.length ≤ c) (hm : us.length ≤ 281474976710656) :
    Calls Tryd.prog 95 #[.slice A us.length c, .int .i64 (f : Int), .int .i64 (us.length : Int)] w fun e w' => ∃ A' c', e = .returned (.slice A' (trimL (us.drop f)).length c') ∧ Rd w B A' (u64s (trimL (us.drop f))) ∧ (trimL (us.drop f)).length ≤ c' ∧ w = w' := by
  have h := cut_any A c f us.length us w B hr hc hm
  rw [List.take_length] at h
  exact h
theorem cut_low (A : Option Addr) (c t : Nat) (us : List Nat) (w : World) (B : Nat) (hr : Rd w B A (u64s us)) (hc : us.length ≤ c) (hm : us.length ≤ 281474976710656) :
    Calls Tryd.prog 95 #[.slice A us.length c, .int .i64 0, .int .i64 (t : Int)] w fun e w' => ∃ A' c', e = .returned (.slice A' (trimL (us.take t)).length c') ∧ Rd w B A' (u64s (trimL (us.take t))) ∧ (trimL (us.take t)).length ≤ c' ∧ w = w' := by
  have h := cut_any A c 0 t us w B hr hc hm
  rw [List.drop_zero] at h
  exact h

/-- The parts of what is divided and of the divisor. -/
structure Bz (h U V b uh ul Vt Vl : Nat) (us vs hs ts vt vl ls : List Nat) : Prop where
  eb : b = 18446744073709551616 ^ h
  b0 : 0 < b
  hs_eq : hs = trimL (us.drop h)
  ts_eq : ts = trimL (hs.drop h)
  ls_eq : ls = trimL (us.take h)
  vt_eq : vt = vs.drop h
  vl_eq : vl = vs.take h
  nhs : Num 18446744073709551616 hs uh
  nts : Num 18446744073709551616 ts (uh / b)
  nvt : Num 18446744073709551616 vt Vt
  nls : Num 18446744073709551616 ls ul
  dvl : Dig 18446744073709551616 vl
  vvl : val 18446744073709551616 vl = Vl
  lhs : hs.length ≤ 2 * h
  lvt : vt.length = h
  lvl : vl.length = h
  lls : ls.length ≤ h
  eU : U = uh * b + ul
  eV : V = Vt * b + Vl
  ulb : ul < b
  Vlb : Vl < b
  top : b ≤ 2 * Vt
  lt : U < V * b
theorem Bz.make {h U V : Nat} {us vs : List Nat} (h2 : 2 ≤ h) (hn : vs.length = 2 * h) (hU : Num 18446744073709551616 us U) (hd2 : Dig 18446744073709551616 vs) (hV : val 18446744073709551616 vs = V) (htop : 18446744073709551616 ^ (2 * h) ≤ 2 * V) (hlt : U < V * 18446744073709551616 ^ h) :
    us.length ≤ 3 * h ∧ ∃ b uh ul Vt Vl hs ts vt vl ls, Bz h U V b uh ul Vt Vl us vs hs ts vt vl ls := by
  obtain ⟨b, hb⟩ : ∃ b, b = 18446744073709551616 ^ h := ⟨_, rfl⟩
  have hb0 : 0 < b := by rw [hb]; exact Nat.pow_pos (by omega)
  have hbb : 18446744073709551616 ^ (2 * h) = b * b := by rw [hb, ← Nat.pow_add]; congr 1; omega
  have hVb : V < b * b := by rw [← hV, ← hbb, ← hn]; exact val_lt _ _ hd2
  refine ⟨num_len hU (by
    rw [show 18446744073709551616 ^ (3 * h) = b * b * 18446744073709551616 ^ h from by rw [← hbb, ← Nat.pow_add]; congr 1; omega]
    exact Nat.lt_of_lt_of_le hlt (Nat.mul_le_mul_right _ (Nat.le_of_lt hVb))), b, U / b, U % b, V / b, V % b, trimL (us.drop h), trimL ((trimL (us.drop h)).drop h), vs.drop h, vs.take h, trimL (us.take h), ?_⟩
  have nhs : Num 18446744073709551616 (trimL (us.drop h)) (U / b) := by rw [hb]; exact num_drop hU h
  have lvt : (vs.drop h).length = h := by rw [List.length_drop]; omega
  have vvt : val 18446744073709551616 (vs.drop h) = V / b := by rw [val_drop (by omega) _ _ hd2, hV, hb]
  have htop2 : b ≤ 2 * (V / b) := bz_half (by rw [hb]; exact pow_even h (by omega)) (by rw [← hbb]; exact htop) hb0
  have nls : Num 18446744073709551616 (trimL (us.take h)) (U % b) := by rw [hb]; exact num_take hU h
  exact {
    eb := hb, b0 := hb0, hs_eq := rfl, ts_eq := rfl, ls_eq := rfl, vt_eq := rfl, vl_eq := rfl, nhs := nhs
    nts := by
      have := num_drop nhs h
      rwa [← hb] at this
    nvt := ⟨hd2.drop_ _, top_trim lvt (by omega) (hd2.drop_ _) (by rw [vvt, ← hb]; exact htop2), vvt⟩
    nls := nls
    dvl := hd2.take_ _
    vvl := by rw [val_take_mod (by omega) _ _ hd2, hV, hb]
    lhs := num_len nhs (by
      rw [hbb]
      refine (Nat.div_lt_iff_lt_mul hb0).2 (Nat.lt_of_lt_of_le hlt ?_)
      rw [← hb]
      exact Nat.mul_le_mul_right _ (Nat.le_of_lt hVb))
    lvt := lvt
    lvl := by rw [List.length_take]; omega
    lls := num_len nls (by rw [← hb]; exact Nat.mod_lt _ hb0)
    eU := by rw [Nat.mul_comm]; exact (Nat.div_add_mod U b).symm
    eV := by rw [Nat.mul_comm]; exact (Nat.div_add_mod V b).symm
    ulb := Nat.mod_lt _ hb0
    Vlb := Nat.mod_lt _ hb0
    top := htop2
    lt := by rw [hb]; exact hlt }

theorem three_long {h b Vt uh : Nat} {hs : List Nat} (hb : b = 18446744073709551616 ^ h) (hn : Num 18446744073709551616 hs uh) (hl : hs.length ≤ 2 * h) (htop : b ≤ 2 * Vt) (hge : Vt ≤ uh / b) (h0 : 0 < h) : hs.length = 2 * h ∧ b * Vt ≤ uh := by
  have hb0 : 0 < b := by rw [hb]; exact Nat.pow_pos (by omega)
  have h1 : b * Vt ≤ uh := Nat.le_trans (Nat.mul_le_mul_left _ hge) (Nat.mul_div_le uh b)
  refine ⟨?_, h1⟩
  have h2 : b * b ≤ 2 * uh := by
    have := Nat.mul_le_mul_left b htop
    rw [Nat.mul_left_comm] at this
    omega
  have h3 := hn.lt
  rcases Nat.lt_or_ge hs.length (2 * h) with hlt | hge2
  · exfalso
    have h4 : 18446744073709551616 ^ hs.length ≤ 18446744073709551616 ^ (2 * h - 1) := Nat.pow_le_pow_right (by omega) (by omega)
    have h5 : b * b = 18446744073709551616 ^ (2 * h - 1) * 18446744073709551616 := by
      rw [hb, ← Nat.pow_add, ← Nat.pow_succ]; congr 1; omega
    omega
  · omega
theorem three_guess {b V Vt Vl uh ul U r : Nat} (hb0 : 0 < b) (h : b * Vt ≤ uh) (hr : r = uh - b * Vt + Vt) (hlt : U < V * b) (_ : U = uh * b + ul) (_ : V = Vt * b + Vl) : uh = (b - 1) * Vt + r ∧ U < (b - 1 + 1) * V ∧ b - 1 < b := by
  obtain ⟨m, rfl⟩ : ∃ m, b = m + 1 := ⟨b - 1, by omega⟩
  rw [Nat.add_mul, Nat.one_mul] at h
  rw [Nat.add_mul, Nat.one_mul] at hr
  refine ⟨by rw [Nat.add_sub_cancel]; omega, by rw [Nat.add_sub_cancel, Nat.mul_comm]; exact hlt, by omega⟩
theorem patch_patch0 {L z1 z2 : List Nat} (h : z1.length = z2.length) : patch (patch L 0 z1) 0 z2 = patch L 0 z2 := by
  simp [patch, ← h]
theorem patch_seg0 {L z : List Nat} {n : Nat} (h : z.length = n) : ((patch L 0 z).drop 0).take n = z := by
  subst h
  simp [patch]
theorem rd_patch0 {w : World} {g : Nat} {L z : List Nat} (h : Blk w g 24 (u64s (patch L 0 z))) : Rd w w.heap.size (some ⟨g, 0, none⟩) (u64s z) := Rd.of_blk h h.lt 0 (fun k v hv => by
  rw [Nat.zero_add]
  have e : u64s (patch L 0 z) = u64s z ++ u64s (L.drop (0 + z.length)) := by simp [patch, u64s]
  rw [e, List.getElem?_append_left (List.getElem?_eq_some_iff.1 hv).1]
  exact hv)
theorem rx_patch0 {w : World} {g g' : Nat} {L z : List Nat} (h : Blk w g 24 (u64s (patch L 0 z))) (hne : g ≠ g') : Rx w g' (some ⟨g, 0, none⟩) (u64s z) := Rx.of_blk h hne 0 (fun k v hv => by
  rw [Nat.zero_add]
  have e : u64s (patch L 0 z) = u64s z ++ u64s (L.drop (0 + z.length)) := by simp [patch, u64s]
  rw [e, List.getElem?_append_left (List.getElem?_eq_some_iff.1 hv).1]
  exact hv)

/-- The quotient's guess and what it leaves of the upper part. -/
def Guessed (h U V b uh Vt : Nat) (qs rs : List Nat) (q r : Nat) : Prop :=
  Dig 18446744073709551616 qs ∧ val 18446744073709551616 qs = q ∧ qs.length ≤ h ∧ Dig 18446744073709551616 rs ∧ val 18446744073709551616 rs = r ∧ rs.length ≤ 2 * h + 1 ∧ uh = q * Vt + r ∧ U < (q + 1) * V ∧ q < b

set_option maxRecDepth 100000 in
set_option maxHeartbeats 3200000 in
theorem threeByTwo_any (h : Nat) (hT : TwoOk h) (A A2 : Option Addr) (c c2 : Nat) (us vs : List Nat) (U V : Nat) (w : World) (B : Nat) (hn : vs.length = 2 * h) (h2 : 2 ≤ h) (hm : h ≤ 134217728) (hr : Rd w B A (u64s us)) (hr2 : Rd w B A2 (u64s vs)) (hB : B ≤ w.heap.size) (hU : Num 18446744073709551616 us U) (hd2 : Dig 18446744073709551616 vs) (hV : val 18446744073709551616 vs = V) (htop : 18446744073709551616 ^ (2 * h) ≤ 2 * V) (hlt : U < V * 18446744073709551616 ^ h)
    (hc : us.length ≤ c) (hc2 : vs.length ≤ c2) :
    Calls Tryd.prog 112 #[.slice A us.length c, .slice A2 vs.length c2] w fun e w' => HalfOut w w' U V e := by
  obtain ⟨hul, b, uh, ul, Vt, Vl, hs, ts, vt, vl, ls, HB⟩ := Bz.make h2 hn hU hd2 hV htop hlt
  obtain ⟨b2, off2, rfl, hbB2, _⟩ := hr2.at64 (k := 0) (by omega)
  have hrt : Rd w B (some ⟨b2, off2 + h, none⟩) (u64s vt) := by rw [HB.vt_eq]; exact hr2.drop_ h
  have hrl : Rd w B (some ⟨b2, off2, none⟩) (u64s vl) := by rw [HB.vl_eq]; exact hr2.takeN h
  have Hcut1 : Hid (∀ W, Below w.heap.size w W → Calls Tryd.prog 95 #[.slice A us.length c, .int .i64 (h : Int), .int .i64 (us.length : Int)] W fun e w' => ∃ A' c', e = .returned (.slice A' hs.length c') ∧ Rd W B A' (u64s hs) ∧ hs.length ≤ c' ∧ W = w') := fun W hW => by
    have := cut_rest A c h us W B (hr.below (hW.mono hB)) hc (by omega)
    rwa [← HB.hs_eq] at this
  have Hcut2 : Hid (∀ W A' c', Rd W B A' (u64s hs) → hs.length ≤ c' → Calls Tryd.prog 95 #[.slice A' hs.length c', .int .i64 (h : Int), .int .i64 (hs.length : Int)] W fun e w' => ∃ A3 c3, e = .returned (.slice A3 ts.length c3) ∧ Rd W B A3 (u64s ts) ∧ ts.length ≤ c3 ∧ W = w') := fun W A' c' q1 q2 => by
    have := cut_rest A' c' h hs W B q1 q2 (by have := HB.lhs; omega)
    rwa [← HB.ts_eq] at this
  have Hcmp : Hid (∀ W A3 c3, Rd W B A3 (u64s ts) → ts.length ≤ c3 → Below w.heap.size w W → Calls Tryd.prog 74 #[.slice A3 ts.length c3, .slice (some ⟨b2, off2 + h, none⟩) h (c2 - h)] W fun e w' => e = .returned (.int .i64 (cmpN (uh / b) Vt)) ∧ Dr W w') := fun W A3 c3 q1 q0 q2 => by
    have := cmpW_any A3 (some ⟨b2, off2 + h, none⟩) c3 (c2 - h) ts vt (uh / b) Vt W B q1 (hrt.below (q2.mono hB)) HB.nts HB.nvt q0 (by rw [HB.lvt]; omega) (by have h1 := HB.lhs; have h3 := trimL_length_le (hs.drop h); rw [← HB.ts_eq, List.length_drop] at h3; omega) (by rw [HB.lvt]; omega)
    rwa [HB.lvt] at this
  have q3 : (h : Int) ≤ 2 * (h : Int) := by omega
  have q4 : ¬ (c2 = h) := by omega
  have q5 : h ≤ 2 * h := by omega
  have q6 : 2 * h - h = h := by omega
  rw [hn] at hc2 ⊢
  go_enter Tryd.func112, Tryd.ntmps112
  go_upto_if 31 with (first
    | (simp only [])
    | (go_at_call_of 95 (Value.slice A us.length c); (with_reducible refine (Hcut1.out _ (Below.refl _ _)).mono ?_); rintro e w1 ⟨Ah, ch, rfl, hrh, hch, rfl⟩)
    | (go_at_call 95; (with_reducible refine (Hcut2.out _ _ _ hrh hch).mono ?_); rintro e w1 ⟨A3, c3, rfl, hr3, hc3, rfl⟩)
    | (go_at_call 74; (with_reducible refine (Hcmp.out _ _ _ hr3 hc3 (Below.refl _ _)).mono ?_); rintro e w1 ⟨rfl, hdr⟩))
  have hb1 := hdr.below w.heap.size
  have hrh1 := hrh.below (hb1.mono hB)
  clear hr3 hc3 hrh hdr Hcut1 Hcut2 Hcmp
  go_cut [8, 9] (fun qv rv W => ∃ (qs rs : List Nat) (Q R : Option Addr) (cq cr q r : Nat), qv = .slice Q qs.length cq ∧ rv = .slice R rs.length cr ∧ Guessed h U V b uh Vt qs rs q r ∧ Rd W W.heap.size Q (u64s qs) ∧ Rd W W.heap.size R (u64s rs) ∧ qs.length ≤ cq ∧ rs.length ≤ cr ∧ Below w.heap.size w W)
  case first =>
    by_cases hge : Vt ≤ uh / b
    · have t1 : decide (cmpN (uh / b) Vt < 0) = false := by
        unfold cmpN
        rw [if_neg (by omega)]
        split <;> simp
      obtain ⟨hsl, hbv⟩ := three_long HB.eb HB.nhs HB.lhs HB.top hge (by omega)
      have Hgr : Hid (∀ W : World, Calls Tryd.prog 118 #[.int .i64 (h : Int)] W fun e w' => Words W w' h (b - 1) e) := fun W => by
        have := greatest_any h W (by omega)
        rwa [← HB.eb] at this
      have Hsum : Hid (∀ W, Below w1.heap.size w1 W → Calls Tryd.prog 101 #[.slice Ah hs.length ch, .slice none 0 0] W fun e w' => Words W w' (2 * h + 1) uh e) := fun W hW => by
        have := sumOf_any Ah none ch 0 hs [] W B (hrh1.below (hW.mono (Nat.le_trans hB hb1.size))) Rd.nil_ (Nat.le_trans hB (Nat.le_trans hb1.size hW.size)) HB.nhs.1 (Dig.nil_ _) (by simp) (by have := HB.lhs; omega)
        rw [HB.nhs.2.2, hsl] at this
        rw [hsl]
        exact this
      have j1 : (h : Int) ≤ 2 * (h : Int) + 1 := by omega
      have j2 : ¬ (2 * h + 1 = h) := by omega
      have j3 : h ≤ 2 * h + 1 := by omega
      have j4 : 2 * h + 1 - h = h + 1 := by omega
      have Hsl := Lib.hid hsl
      simp only [t1]
      clear t1 hsl
      go_wp2_with (first
        | (simp only [])
        | (go_at_call 118; (with_reducible refine (Hgr.out _).mono ?_); rintro e w2 ⟨z1, g1, rfl, hl1, hd1, hv1, hg1, hbk1, hb2⟩)
        | (go_at_call 101; (with_reducible refine (Hsum.out _ hb2).mono ?_); rintro e w3 ⟨z2, g2, rfl, hl2, hd3, hv2, hg2, hbk2, hb3⟩))
      have hbt := hb1.trans (hb2.mono hb1.size)
      have hbu := hbt.trans (hb3.mono hbt.size)
      have hwg2 : w.heap.size ≤ g2 := Nat.le_trans hbt.size hg2
      have hrx : Rx w3 g2 (some ⟨b2, off2 + h, none⟩) (u64s vt) := (hrt.below (hbu.mono hB)).rx (Nat.le_trans hB hwg2) (Nat.le_trans hB hbu.size)
      have htk := takeFrom_any g2 h (h + 1) (h + 1) z2 vt (some ⟨b2, off2 + h, none⟩) (c2 - h) w3 hbk2 hrx (by omega) (by rw [HB.lvt]; omega) hd3 HB.nvt.1 (by omega)
      rw [HB.lvt] at htk
      have Htk := Lib.hid htk
      clear htk hrx
      refine Htk.out.mono ?_
      rintro e w4 ⟨z3, k3, rfl, hl3, hd4, hk3, hv3, hbk3, htn⟩
      clear Htk
      have hseg : val 18446744073709551616 ((z2.drop h).take (h + 1)) = uh / b := by
        rw [List.take_of_length_le (by rw [List.length_drop]; omega), val_drop (by omega) _ _ hd3, hv2, HB.eb]
      rw [hseg, HB.nvt.2.2] at hv3
      have hk0 := borrow_none hv3 (by have := val_lt _ _ hd4; rwa [hl3] at this) hge
      have hpv := patch_val 18446744073709551616 (L := z2) (o := h) (zs := z3) (by omega)
      rw [hl3, hseg, hv2, ← HB.eb] at hpv
      have hpl : (patch z2 h z3).length = 2 * h + 1 := by rw [patch_length (by omega), hl2]
      have hpd := patch_dig (o := h) hd3 hd4
      have hpe : val 18446744073709551616 (patch z2 h z3) = uh - b * Vt := by
        rw [hk0, Nat.mul_zero, Nat.add_zero] at hv3
        have h9 : b * val 18446744073709551616 z3 + b * Vt = b * (uh / b) := by rw [← Nat.mul_add, hv3]
        omega
      have Hl2 := Lib.hid hl2
      have Hpe := Lib.hid hpe
      have Hpl := Lib.hid hpl
      have Hl1 := Lib.hid hl1
      clear hseg hv3 hk0 hpv hpe hpl hbk2 hv2 hl2 hl1 hk3 hl3
      have hbt4 := hbu.trans (htn.below (Nat.le_trans hbu.size (Nat.le_refl _) |> fun _ => hwg2) hbu.size)
      have hbk4 := hbk1.below hb3 hbk1.lt |>.tn htn (by have := hbk1.lt; omega)
      go_wp2_with fail
      have hrx2 : Rx w4 g2 (some ⟨b2, off2 + h, none⟩) (u64s vt) := (hrt.below (hbt4.mono hB)).rx (Nat.le_trans hB hwg2) (Nat.le_trans hB hbt4.size)
      have hai := addInto_any g2 0 (2 * h + 1) z2.length (patch z2 h z3) vt (some ⟨b2, off2 + h, none⟩) (c2 - h) w4 hbk3 hrx2 (by rw [Hpl.out]; omega) (by rw [HB.lvt]; omega) hpd HB.nvt.1 (by omega)
      rw [HB.lvt, drop_take_all _ _ Hpl.out.symm, Hpe.out, HB.nvt.2.2, ← Hl2.out] at hai
      have Hai := Lib.hid hai
      clear hai hrx2
      refine Hai.out.mono ?_
      rintro e w5 ⟨z4, k4, rfl, hl4, hd5, hk4, hv4, hbk5, htn2⟩
      clear Hai
      have hlt2 : uh - b * Vt + Vt < 18446744073709551616 ^ z2.length := by
        have a1 := HB.nhs.lt
        have a2 := HB.nvt.lt
        rw [HB.lvt] at a2
        have a3 : 18446744073709551616 ^ h ≤ 18446744073709551616 ^ hs.length := Nat.pow_le_pow_right (by omega) (by rw [Hsl.out]; omega)
        rw [Hl2.out, Nat.pow_succ, ← Hsl.out]
        omega
      have hv5 := carry_zero2 hv4 hlt2
      rw [patch_zero_all (by rw [hl4, Hpl.out, Hl2.out])] at hbk5
      have hne : g1 ≠ g2 := by have := hbk1.lt; omega
      have hbk6 := hbk4.tn htn2 hne
      have hbt5 := hbt4.trans (htn2.below hwg2 hbt4.size)
      have Hv5 := Lib.hid hv5
      have Hl4 := Lib.hid hl4
      clear hv4 hlt2 hv5 hl4 hk4 hbk4 hbk3
      go_wp2_with fail
      go_meet
      exact ⟨z1, z4, _, _, z1.length, z2.length, b - 1, uh - b * Vt + Vt, rfl, by rw [Hl4.out], ⟨hd1, hv1, by rw [Hl1.out]; exact Nat.le_refl _, hd5, Hv5.out, by rw [Hl4.out, Hl2.out]; exact Nat.le_refl _, (three_guess HB.b0 hbv rfl HB.lt HB.eU HB.eV)⟩,
        Rd.of_blk hbk6 hbk6.lt 0 (fun k v hv => by rw [Nat.zero_add]; exact hv), Rd.of_blk hbk5 hbk5.lt 0 (fun k v hv => by rw [Nat.zero_add]; exact hv), Nat.le_refl _, by rw [Hl4.out]; exact Nat.le_refl _, hbt5⟩
    · have t1 : decide (cmpN (uh / b) Vt < 0) = true := by
        unfold cmpN
        rw [if_pos (by omega)]
        simp
      have Htwo : Hid (∀ W, Rd W B Ah (u64s hs) → Below w.heap.size w W → Calls Tryd.prog 93 #[.slice Ah hs.length ch, .slice (some ⟨b2, off2 + h, none⟩) h (c2 - h)] W fun e w' => HalfOut W w' uh Vt e) := fun W q1 q2 => by
        have := hT Ah (some ⟨b2, off2 + h, none⟩) ch (c2 - h) hs vt uh Vt W B HB.lvt q1 (hrt.below (q2.mono hB)) (Nat.le_trans hB q2.size) HB.nhs HB.nvt.1 HB.nvt.2.2 (by rw [← HB.eb]; exact HB.top) (by
          rw [← HB.eb]
          exact (Nat.div_lt_iff_lt_mul HB.b0).1 (by omega)) hch (by rw [HB.lvt]; omega)
        rwa [HB.lvt] at this
      simp only [t1]
      go_wp2_with (go_at_call 93; (with_reducible refine (Htwo.out _ hrh1 hb1).mono ?_); rintro e w2 ⟨qs, rs, Q, cq, R, cr, rfl, hqs, hrs, hcq, hcr, hq3, hr3, _, hb2⟩)
      go_meet
      have hb3 := hb1.trans (hb2.mono hb1.size)
      have hVt0 : 0 < Vt := by have h1 := HB.top; have h3 := HB.b0; omega
      refine ⟨qs, rs, _, _, cq, cr, uh / Vt, uh % Vt, rfl, rfl, ⟨hqs.1, hqs.2.2, ?_, hrs.1, hrs.2.2, ?_, ?_, ?_, ?_⟩, hq3, hr3, hcq, hcr, hb3⟩
      · exact num_len hqs (by rw [← HB.eb]; exact (Nat.div_lt_iff_lt_mul hVt0).2 (by rw [Nat.mul_comm]; exact (Nat.div_lt_iff_lt_mul HB.b0).1 (by omega)))
      · have h9 := num_len (k := h) hrs (by
          have a1 := Nat.mod_lt uh hVt0
          have a2 := HB.nvt.lt
          rw [HB.lvt] at a2
          omega)
        omega
      · rw [Nat.mul_comm]; exact (Nat.div_add_mod uh Vt).symm
      · exact bz_lt1 HB.eU HB.eV (by rw [Nat.mul_comm]; exact (Nat.div_add_mod uh Vt).symm) (Nat.mod_lt _ hVt0) HB.ulb
      · exact (Nat.div_lt_iff_lt_mul hVt0).2 (by rw [Nat.mul_comm]; exact (Nat.div_lt_iff_lt_mul HB.b0).1 (by omega))
  case rest =>
    clear hb1 hrh1 hch
    obtain ⟨qs, rs, Q, R, cq, cr, q, r, rfl, rfl, HG, hrq, hrr, hcq, hcr, hb1⟩ := hcut
    obtain ⟨N0, hN0⟩ : ∃ N0, N0 = h + rs.length := ⟨_, rfl⟩
    have lrs : rs.length ≤ 2 * h + 1 := HG.2.2.2.2.2.1
    have lqs : qs.length ≤ h := HG.2.2.1
    have Hcut3 : Hid (∀ W, Below w.heap.size w W → Calls Tryd.prog 95 #[.slice A us.length c, .int .i64 0, .int .i64 (h : Int)] W fun e w' => ∃ A' c', e = .returned (.slice A' ls.length c') ∧ Rd W B A' (u64s ls) ∧ ls.length ≤ c' ∧ W = w') := fun W hW => by
      have := cut_low A c h us W B (hr.below (hW.mono hB)) hc (by omega)
      rwa [← HB.ls_eq] at this
    have Hjo : Hid (∀ W A' c', Rd W B A' (u64s ls) → Rd W W.heap.size R (u64s rs) → B ≤ W.heap.size → Calls Tryd.prog 94 #[.slice A' ls.length c', .slice R rs.length cr, .int .i64 (h : Int)] W fun e w' => JoinOut W w' N0 (r * b + ul) e) := fun W A' c' z1 z2 z3 => by
      have := joined_any A' R c' cr h ls rs W W.heap.size (z1.mono z3) z2 (Nat.le_refl _) HB.nls.1 HG.2.2.2.1 HB.lls (by omega) (by omega)
      rw [HB.nls.2.2, HG.2.2.2.2.1, ← HB.eb, ← hN0] at this
      rw [Nat.add_comm, Nat.mul_comm]
      exact this
    have Hpr : Hid (∀ W, Below w.heap.size w W → Rd W W.heap.size Q (u64s qs) → Calls Tryd.prog 63 #[.slice Q qs.length cq, .slice (some ⟨b2, off2, none⟩) h c2] W fun e w' => Words W w' (qs.length + h) (q * Vl) e) := fun W hW z2 => by
      have := product_any Q (some ⟨b2, off2, none⟩) cq c2 qs vl W W.heap.size z2 ((hrl.below (hW.mono hB)).mono (Nat.le_trans hB hW.size)) (Nat.le_refl _) HG.1 HB.dvl hcq (by rw [HB.lvl]; omega) (by rw [HB.lvl]; omega)
      rw [HG.2.1, HB.lvl, HB.vvl] at this
      exact this
    have Hjq : Hid (∀ W, Rd W W.heap.size Q (u64s qs) → Calls Tryd.prog 94 #[.slice Q qs.length cq, .slice none 0 0, .int .i64 (h : Int)] W fun e w' => JoinOut W w' h q e) := fun W z1 => by
      have := joined_any Q none cq 0 h qs [] W W.heap.size z1 Rd.nil_ (Nat.le_refl _) HG.1 (Dig.nil_ _) lqs (by omega) (by simp; omega)
      rw [HG.2.1] at this
      simpa [val] using this
    have HN0 := Lib.hid hN0
    clear hN0
    go_wp2_with (first
      | (go_at_call_of 95 (Value.slice A us.length c); (with_reducible refine (Hcut3.out _ hb1).mono ?_); rintro e w2 ⟨A9, c9, rfl, hr9, hc9, rfl⟩)
      | (go_at_call_of 94 (Value.slice R rs.length cr); (with_reducible refine (Hjo.out _ _ _ hr9 hrr (Nat.le_trans hB hb1.size)).mono ?_); rintro e w2 ⟨ys, g, rfl, hyl, hyd, hyv, hg, hbk, hb2⟩; obtain ⟨g2, L, w3, hrun, hbk2, htk, hLl, hLd, hgg, htn⟩ := run_appz64 w2 57 g (trimL ys).length ys.length (2 * h + 2) ys hbk rfl (trimL_length_le ys) (by have h9 := trimL_length_le ys; have h8 := HN0.out; omega) hyd; have Hrun := Lib.hid hrun; have Htk := Lib.hid htk; have Hyv := Lib.hid hyv; have Hyl := Lib.hid hyl; clear hrun htk hyv hyl)
      | (at_builtin; refine wpList_append_run rfl _ _ _ _ rfl _ _ rfl rfl _ _ Hrun.out ?_))
    have hM : Hid ((trimL ys).length + (2 * h + 2) ≤ 8796093022208) := by show _ ≤ _; have h9 := trimL_length_le ys; have h8 := HN0.out; have h7 := Hyl.out; omega
    obtain ⟨M, hMe⟩ : ∃ M, M = (trimL ys).length + (2 * h + 2) := ⟨_, rfl⟩
    rw [← hMe] at hLl hM ⊢
    have hseg : val 18446744073709551616 ((L.drop 0).take M) = r * b + ul := by
      rw [List.drop_zero, hMe, Htk.out, val_append, val_zeros, Nat.mul_zero, Nat.add_zero, trimL_take, val_trim, Hyv.out]
    have hne2 : w.heap.size ≤ g2 := by
      have := hb1.size; have := hb2.size; omega
    have hb3 : Below wc.heap.size wc w3 := hb2.trans (htn.below hg hb2.size)
    have hbt3 := hb1.trans (hb3.mono hb1.size)
    have hM2 : 2 * h + 2 ≤ M := by omega
    have Hseg := Lib.hid hseg
    clear hseg hMe Hrun Htk Hyv Hyl hbk hrr Hjo Hcut3 htn hyd hgg hg hb2 HN0 hc9 hr9
    have hrq3 : Rd w3 w3.heap.size Q (u64s qs) := (hrq.below hb3).mono hb3.size
    go_wp2_with (first
      | (go_at_call 63; (with_reducible refine (Hpr.out _ hbt3 hrq3).mono ?_); rintro e w4 ⟨ps, gp, rfl, hpl, hpd, hpv, hgp, hbkp, hb4⟩; have Hpl := Lib.hid hpl; have Hpv := Lib.hid hpv; clear hpl hpv)
      | (go_at_call 66; (with_reducible refine (trimWords_any (some ⟨gp, 0, none⟩) ps.length ps w4 w4.heap.size (Rd.of_blk hbkp hbkp.lt 0 (fun k v hv => by rw [Nat.zero_add]; exact hv)) (Nat.le_refl _) (by have := Hpl.out; omega)).mono ?_); rintro e w4' ⟨rfl, rfl⟩)
      | (go_at_call 94; (with_reducible refine (Hjq.out _ ((hrq3.below hb4).mono hb4.size)).mono ?_); rintro e w5 ⟨yq, gq, rfl, hql, hqd, hqv, hgq, hbkq, hb5⟩; have Hql := Lib.hid hql; have Hqv := Lib.hid hqv; clear hql hqv))
    have hbk5 := hbk2.below (hb4.trans (hb5.mono hb4.size)) hbk2.lt
    have hbp5 := hbkp.below hb5 hbkp.lt
    have hnp : gp ≠ g2 := by have := hbk2.lt; omega
    have hnq : gq ≠ g2 := by have := hbk2.lt; have := hb4.size; omega
    have hbt5 : Below w.heap.size w w5 := hbt3.trans ((hb4.trans (hb5.mono hb4.size)).mono hbt3.size)
    have hwq : w.heap.size ≤ gq := Nat.le_trans hbt3.size (Nat.le_trans hb4.size hgq)
    have htk := takeFrom_any g2 0 M L.length L (trimL ps) (some ⟨gp, 0, none⟩) ps.length w5 hbk5 (rx_whole hbp5 hnp).trim_ (by omega) (by have := trimL_length_le ps; have := Hpl.out; omega) hLd hpd.trim_ (by have := hM.out; omega)
    rw [Hseg.out, val_trim, Hpv.out] at htk
    have Htk := Lib.hid htk
    clear htk hbk5 hbp5 hbkp hbk2 Hpr Hjq hrq3 hrq hb3 hgp
    refine Htk.out.mono ?_
    rintro e w6 ⟨z0, k0, rfl, hzl0, hzd0, hk0, hzv0, hbk6, htn6⟩
    clear Htk
    have hbq6 := hbkq.tn htn6 hnq
    have hbt6 := hbt5.trans (htn6.below hne2 hbt5.size)
    have hbz := bz_eq HB.eU HB.eV HG.2.2.2.2.2.2.1
    have hinv : Hid (val 18446744073709551616 z0 + q * V = U + 18446744073709551616 ^ M * k0) := by show _ = _; omega
    have hult : Hid (U < (q + 1) * V) := HG.2.2.2.2.2.2.2.1
    have hzq0 : Blk w6 gq 24 (u64s (patch yq 0 (trimL yq))) := by
      have e := patch_self (L := yq) (o := 0) (n := (trimL yq).length) (by have := trimL_length_le yq; omega)
      rw [List.drop_zero, trimL_take] at e
      rw [e]; exact hbq6
    have hzqv : Hid (val 18446744073709551616 (trimL yq) = q) := by show _ = _; rw [val_trim]; exact Hqv.out
    have hlq2 : (trimL yq).length ≤ yq.length := trimL_length_le yq
    obtain ⟨lq, hlq⟩ : ∃ lq, lq = (trimL yq).length := ⟨_, rfl⟩
    have hzql : Hid ((trimL yq).length = lq) := hlq.symm
    rw [← hlq] at hlq2 ⊢
    have hyqd := hqd
    clear hzv0 hbz hbq6 hbkq htn6 hbt5 hb5 hb4 Hqv hlq
    go_wp2_with fail
    go_loopg [12] q (fun k lv wr => ∃ (less : Nat) (zs zq : List Nat), lv = .int .u64 (less : Int) ∧ less ≤ 1 ∧ Hid (zs.length = M) ∧ Dig 18446744073709551616 zs ∧ Dig 18446744073709551616 zq ∧ Hid (zq.length = lq) ∧ Blk wr g2 24 (u64s (patch L 0 zs)) ∧ Blk wr gq 24 (u64s (patch yq 0 zq)) ∧ Hid (val 18446744073709551616 zq = k) ∧ Hid (val 18446744073709551616 zs + k * V = U + 18446744073709551616 ^ M * less) ∧ Hid (U < (k + 1) * V) ∧ Below w.heap.size w wr)
    case atStart => exact ⟨k0, z0, trimL yq, rfl, hk0, hzl0, hzd0, hqd.trim_, hzql, hbk6, hzq0, hzqv, hinv, hult, hbt6⟩
    case round =>
      clear hbk6 hzq0 hzqv hinv hult hbt6 hzl0 hzd0 hk0 hzql
      obtain ⟨less, zs, zq, rfl, hl1, Hzl, hzd, hqd2, Hql2, hbk, hbkq, Hqv, Hinv, Hult, hbel⟩ := hrel
      rcases Nat.eq_zero_or_pos less with h0 | h1
      · subst h0
        have e1 : val 18446744073709551616 zs + gk * V = U := by have := Hinv.out; omega
        have hd9 := bz_done e1 Hult.out
        have ht1 := trimWords_any (some ⟨gq, 0, none⟩) yq.length zq wr wr.heap.size (rd_patch0 hbkq) (by rw [Hql2.out]; exact hlq2) (by rw [Hql2.out]; have := Hql.out; omega)
        have ht2 := trimWords_any (some ⟨g2, 0, none⟩) L.length zs wr wr.heap.size (rd_patch0 hbk) (by rw [Hzl.out]; exact hLl) (by rw [Hzl.out]; have := hM.out; omega)
        rw [Hql2.out] at ht1
        rw [Hzl.out] at ht2
        have Ht1 := Lib.hid ht1
        have Ht2 := Lib.hid ht2
        have Hd9 := Lib.hid hd9
        clear ht1 ht2 hd9 e1
        go_wp2_with (first
          | (go_at_call_of 66 (Value.slice (some ⟨gq, 0, none⟩) lq yq.length); (with_reducible refine Ht1.out.mono ?_); rintro e wr' ⟨rfl, rfl⟩)
          | (go_at_call_of 66 (Value.slice (some ⟨g2, 0, none⟩) M L.length); (with_reducible refine Ht2.out.mono ?_); rintro e wr' ⟨rfl, rfl⟩))
        go_ret2
        have n1 := Num.of_trim hqd2
        have n2 := Num.of_trim hzd
        rw [Hqv.out, Hd9.out.1] at n1
        rw [Hd9.out.2] at n2
        have r1 := (rd_patch0 hbkq).takeN (trimL zq).length
        have r2 := (rd_patch0 hbk).takeN (trimL zs).length
        rw [trimL_take] at r1 r2
        exact ⟨trimL zq, trimL zs, _, yq.length, _, L.length, rfl, n1, n2, by have := trimL_length_le zq; have := Hql2.out; omega, by have := trimL_length_le zs; have := Hzl.out; omega, r1, r2, fun g hg => (rx_patch0 hbk (by omega)).trim_, hbel⟩
      · obtain rfl : less = 1 := by omega
        have hwgr := hbkq.lt
        have hai := addInto_any g2 0 M L.length (patch L 0 zs) vs (some ⟨b2, off2, none⟩) c2 wr hbk ((hr2.below (hbel.mono hB)).rx (by omega) (Nat.le_trans hB hbel.size)) (by rw [patch_length (by rw [Hzl.out]; omega)]; omega) (by omega) (patch_dig hLd hzd) hd2 (by have := hM.out; omega)
        rw [patch_seg0 Hzl.out, hV, hn] at hai
        have Hai := Lib.hid hai
        clear hai
        go_wp2_with fail
        refine Hai.out.mono ?_
        rintro e wa ⟨z2, cc, rfl, hz2l, hz2d, hcc, hz2v, hbk2, htna⟩
        clear Hai
        have hrl := val_lt _ _ hzd
        rw [Hzl.out] at hrl
        have hinv := Hinv.out
        rw [Nat.mul_one] at hinv
        obtain ⟨hk0, hi2, hu2⟩ := bz_back hinv hz2v hrl hcc
        rw [patch_patch0 (by rw [Hzl.out, hz2l])] at hbk2
        have hbqa := hbkq.tn htna hnq
        have hbela := hbel.trans (htna.below hne2 hbel.size)
        have Hz2l := Lib.hid hz2l
        have Hi2 := Lib.hid hi2
        have Hu2 := Lib.hid hu2
        have e2 : IntKind.u64.wrap (((1 : Nat) : Int) - (cc : Int)) = ((1 - cc : Nat) : Int) := by rw [IntKind.wrap_u64]; omega
        clear hz2v hinv hz2l hi2 hu2 hbk hbkq hbel
        go_wp2_with (simp only [])
        have hlq0 : 0 < lq := by
          rcases Nat.eq_zero_or_pos lq with h0 | h0
          · exfalso
            have h9 := Hql2.out
            rw [h0] at h9
            have h8 := Hqv.out
            rw [List.eq_nil_of_length_eq_zero h9] at h8
            simp [val] at h8
            omega
          · exact h0
        have hn1 : Blk (wa.alloc (.cells #[.int .u64 1] 24)) wa.heap.size 24 (u64s [1]) := Blk.new_ rfl
        have hbqb := hbqa.heapAlloc (.cells #[.int .u64 1] 24)
        have hbk2b := hbk2.heapAlloc (.cells #[.int .u64 1] 24)
        have hbelb := hbela.alloc hbela.size (.cells #[.int .u64 1] 24)
        have hqa := hbqa.lt
        have hpz : (patch yq 0 zq).length = yq.length := patch_length (by rw [Hql2.out]; omega)
        have htk := takeFrom_any gq 0 lq yq.length (patch yq 0 zq) [1] (some ⟨wa.heap.size, 0, none⟩) 1 _ hbqb (rx_whole hn1 (by omega)) (by rw [hpz]; omega) hlq0 (patch_dig hyqd hqd2) (Dig.cons_ (by omega) (Dig.nil_ _)) (by have := Hql.out; omega)
        rw [patch_seg0 Hql2.out, Hqv.out] at htk
        have Htk := Lib.hid htk
        clear htk hn1 hbqb hbk2 hbqa hpz
        refine Htk.out.mono ?_
        rintro e wb ⟨zq2, k2, rfl, hq2l, hq2d, hk2, hq2v, hbq3, htnb⟩
        clear Htk
        have hone : val 18446744073709551616 [1] = 1 := by simp [val]
        rw [hone] at hq2v
        have hlt9 := val_lt _ _ hq2d
        rw [hq2l] at hlt9
        have hk20 := borrow_none hq2v hlt9 (by omega)
        rw [hk20, Nat.mul_zero, Nat.add_zero] at hq2v
        rw [patch_patch0 (by rw [hq2l, Hql2.out])] at hbq3
        have hbk3 := hbk2b.tn htnb hnq.symm
        have hbelc := hbelb.trans (htnb.below hwq hbelb.size)
        have hqv2 : Hid (val 18446744073709551616 zq2 = gk - 1) := by show _ = _; omega
        have Hq2l := Lib.hid hq2l
        clear hq2v hlt9 hk20 hq2l hbk2b hbelb htnb
        go_wp2_with fail
        go_roundg (gk - 1)
        case measure => omega
        case rel => exact ⟨1 - cc, z2, zq2, by rw [show ((1 - cc : Nat) : Int) = 1 - (cc : Int) from by omega], by omega, Hz2l, hz2d, hq2d, Hq2l, hbk3, hbq3, hqv2, Hi2, by show _ < _; rw [Nat.sub_add_cancel (by omega)]; exact Hu2.out, hbelc⟩
end
section
open Go.RowKit

theorem take_q {W r x v c o q : Nat} (hr : r < W) (hx : x < W) (hv : v < W) (hc : c < W) (e : r + x * v + c = o + W * q) : q < W := by
  have h1 : x * v ≤ (W - 1) * (W - 1) := Nat.mul_le_mul (by omega) (by omega)
  obtain ⟨t, rfl⟩ : ∃ t, W = t + 1 := ⟨W - 1, by omega⟩
  simp only [Nat.add_sub_cancel] at h1
  rcases Nat.lt_or_ge q (t + 1) with h | h
  · exact h
  · exfalso
    have h2 : (t + 1) * (t + 1) ≤ (t + 1) * q := Nat.mul_le_mul_left _ h
    have h3 : (t + 1) * (t + 1) = t * t + t + t + 1 := by rw [Nat.add_mul, Nat.mul_add]; omega
    omega

set_option maxHeartbeats 1600000 in
theorem takeRow_any (g o co : Nat) (L us : List Nat) (v : Nat) (A : Option Addr) (c : Nat) (w : World) (hblk : Blk w g 24 (u64s L)) (hrx : Rx w g A (u64s us)) (ho : o + us.length ≤ L.length) (hco : us.length ≤ co) (hd : Dig 18446744073709551616 L) (hdu : Dig 18446744073709551616 us) (hv : v < 18446744073709551616) (hm : L.length ≤ 281474976710656) (hm2 : us.length ≤ 281474976710656) :
    Calls Tryd.prog 90 #[.slice (some ⟨g, o, none⟩) us.length co, .slice A us.length c, .int .u64 (v : Int)] w fun e w' => ∃ (zs : List Nat) (q : Nat), e = .returned (.int .u64 (q : Int)) ∧ zs.length = us.length ∧ Dig 18446744073709551616 zs ∧ q < 18446744073709551616 ∧ val 18446744073709551616 zs + val 18446744073709551616 us * v = val 18446744073709551616 ((L.drop o).take us.length) + 18446744073709551616 ^ us.length * q ∧ Blk w' g 24 (u64s (patch L o zs)) ∧ Tn g w w' := by
  have hsl := seg_length ho
  have hsd := seg_dig hd o us.length
  have hps := patch_self ho
  obtain ⟨os, hos⟩ : ∃ os, os = (L.drop o).take us.length := ⟨_, rfl⟩
  rw [← hos] at hsl hsd hps ⊢
  have hblk0 : Blk w g 24 (u64s (patch L o os)) := by rw [hps]; exact hblk
  have Hsl := Lib.hid hsl
  have hgw := hblk.lt
  clear hos hsl hps hblk
  go_enter Tryd.func90, Tryd.ntmps90
  go_wp2_with fail
  go_loopw [7, 8, 9, 10, 11, 12, 13, 20] (fun cv _ _ _ _ _ _ i wr => ∃ (k cc : Nat) (zs : List Nat), k ≤ us.length ∧ i = .int .i64 k ∧ cv = .int .u64 cc ∧ cc < 18446744073709551616 ∧ Blk wr g 24 (u64s (patch L o zs)) ∧ Dec 18446744073709551616 os (val 18446744073709551616 (us.take k) * v) k zs cc ∧ Tn g w wr) (fun _ _ _ _ _ _ _ i _ => us.length - (intOf i).toNat)
  case atStart => exact ⟨0, 0, os, by omega, rfl, rfl, by omega, hblk0, by simpa [val] using Dec.start hsd, Tn.refl _ _⟩
  case round =>
    clear hblk0
    obtain ⟨k, cc, zs, hk, rfl, rfl, hcc, hblk, hdec, htn⟩ := hrel
    by_cases hlt : k < us.length
    · obtain ⟨b, off, rfl, hb, hbg, hx⟩ := (hrx.tn htn).at64 hlt
      have hxd := hdu.at_ k hlt
      have hko : k < os.length := by rw [Hsl.out]; exact hlt
      obtain ⟨hz1, hzk⟩ := hdec.at_ hko
      have hzo : o + zs.length ≤ L.length := by rw [hdec.2.1, Hsl.out]; exact ho
      have hy := blk_patch hblk hz1 hzo
      have hf := hblk.frozen (o + k)
      have hyd := hdec.1.at_ k hz1
      obtain ⟨x, hxe⟩ : ∃ x, x = us[k] := ⟨_, rfl⟩
      obtain ⟨y, hye⟩ : ∃ y, y = zs[k] := ⟨_, rfl⟩
      rw [← hxe] at hx hxd
      rw [← hye] at hy hyd hzk
      have hmul := fun W => mul64_any x v W hxd hv
      obtain ⟨hi, hhi⟩ : ∃ hi, hi = x * v / 18446744073709551616 := ⟨_, rfl⟩
      obtain ⟨lo, hlo⟩ : ∃ lo, lo = x * v % 18446744073709551616 := ⟨_, rfl⟩
      rw [← hhi, ← hlo] at hmul
      have e0 : x * v = hi * 18446744073709551616 + lo := by rw [hhi, hlo]; omega
      have hlb : lo < 18446744073709551616 := by rw [hlo]; omega
      have s1 := fun W => sub64_run0 y lo W
      obtain ⟨r1, hr1⟩ := nameIt ((y + 18446744073709551616 - lo) % 18446744073709551616)
      obtain ⟨l1, hl1⟩ := nameIt (if y < lo then 1 else 0)
      rw [← hr1, ← hl1] at s1
      have f1 : r1 + lo = y + 18446744073709551616 * l1 := by
        by_cases h : y < lo
        · rw [if_pos h] at hl1; omega
        · rw [if_neg h] at hl1; omega
      have s2 := fun W => sub64_run0 r1 cc W
      obtain ⟨r2, hr2⟩ := nameIt ((r1 + 18446744073709551616 - cc) % 18446744073709551616)
      obtain ⟨l2, hl2⟩ := nameIt (if r1 < cc then 1 else 0)
      rw [← hr2, ← hl2] at s2
      have hr1b : r1 < 18446744073709551616 := by omega
      have hr2b : r2 < 18446744073709551616 := by omega
      have f2 : r2 + cc = r1 + 18446744073709551616 * l2 := by
        by_cases h : r1 < cc
        · rw [if_pos h] at hl2; omega
        · rw [if_neg h] at hl2; omega
      have hl1b : l1 ≤ 1 := by omega
      have hl2b : l2 ≤ 1 := by omega
      have hst := hdec.step (d := x * v) (r := r2) (q := hi + l1 + l2) hko hr2b (by rw [← hzk, e0]; omega)
      have hq : hi + l1 + l2 < 18446744073709551616 := take_q hr2b hxd hv hcc (o := y) (by rw [e0]; omega)
      rw [hxe, mul_T64 hlt] at hst
      have Hst := Lib.hid hst
      have Hmul := Lib.hid hmul
      have hq1 : hi + l1 < 18446744073709551616 := by omega
      clear hst hmul hr1 hl1 hr2 hl2 f1 f2 hxe hye hhi hlo e0 hzk
      go_wp2_with (first
        | (go_at_call 61; (with_reducible refine (Hmul.out _).mono ?_); rintro e w' ⟨rfl, rfl⟩)
        | (simp only [])
        | (simp only [s2]))
      go_roundw
      case rel => exact ⟨k + 1, hi + l1 + l2, zs.set k r2, by omega, by go_num, by go_num, hq, blk_patch_set hblk hz1 hzo, Hst.out, htn.setCell (o + k) _⟩
      case measure => simp [intOf]; omega
    · obtain rfl : k = us.length := by omega
      go_wp2_with fail
      go_ret
      refine ⟨zs, cc, rfl, hdec.2.1.trans Hsl.out, hdec.1, hcc, ?_, hblk, htn⟩
      have := hdec.2.2.1
      rw [List.take_length] at this
      exact this

theorem guess_stop {W top next third v1 v2 d r : Nat} (hd : d * v1 + r = top * W + next) (h : d * v2 ≤ r * W + third) : d * (v1 * W + v2) ≤ (top * W + next) * W + third := by
  rw [← hd, Nat.mul_add, Nat.add_mul, ← Nat.mul_assoc]; omega
theorem guess_more {W top next third v1 v2 d r : Nat} (hd : d * v1 + r = top * W + next) (h : r * W + third < d * v2) : (top * W + next) * W + third < d * (v1 * W + v2) := by
  rw [← hd, Nat.mul_add, Nat.add_mul, ← Nat.mul_assoc]; omega
/-- The digit that three words of what is divided and two of the divisor tell. -/
def digit3 (W top next third v1 v2 : Nat) : Nat := min (W - 1) (((top * W + next) * W + third) / (v1 * W + v2))
theorem digit3_eq {W top next third v1 v2 d : Nat} (hD : 0 < v1 * W + v2) (h1 : d ≤ W - 1) (h2 : digit3 W top next third v1 v2 ≤ d) (h3 : d * (v1 * W + v2) ≤ (top * W + next) * W + third) : d = digit3 W top next third v1 v2 := by
  have h4 : d ≤ ((top * W + next) * W + third) / (v1 * W + v2) := (Nat.le_div_iff_mul_le hD).2 h3
  unfold digit3 at *
  omega
theorem digit3_lt {W top next third v1 v2 d : Nat} (hD : 0 < v1 * W + v2) (h3 : (top * W + next) * W + third < d * (v1 * W + v2)) : digit3 W top next third v1 v2 ≤ d - 1 := by
  have h4 : ((top * W + next) * W + third) / (v1 * W + v2) < d := (Nat.div_lt_iff_lt_mul hD).2 h3
  unfold digit3
  omega
theorem digit3_start {W top next third v1 v2 : Nat} (_ : 0 < W) (ht : third < W) (hv : 0 < v1) : digit3 W top next third v1 v2 ≤ (top * W + next) / v1 := by
  unfold digit3
  refine Nat.le_trans (Nat.min_le_right _ _) ?_
  rw [Nat.div_le_iff_le_mul_add_pred (by have := Nat.mul_le_mul_right W hv; omega)]
  have h1 := Nat.div_add_mod (top * W + next) v1
  have h2 := Nat.mod_lt (top * W + next) hv
  generalize (top * W + next) / v1 = q at *
  generalize (top * W + next) % v1 = r at *
  rw [← h1, Nat.add_mul]
  have h3 : r * W + third < v1 * W := by
    have : (r + 1) * W ≤ v1 * W := Nat.mul_le_mul_right _ h2
    rw [Nat.add_mul] at this; omega
  have h4 : v1 * q * W ≤ (v1 * W + v2) * q := by
    rw [Nat.add_mul, Nat.mul_right_comm]; omega
  omega
theorem far_rest {W d v2 r third : Nat} (hd : d < W) (hv : v2 < W) (hr : W ≤ r) : d * v2 ≤ r * W + third := by
  have h1 : d * v2 ≤ W * W := Nat.mul_le_mul (by omega) (by omega)
  have h2 : W * W ≤ r * W := Nat.mul_le_mul_right _ hr
  omega
theorem two_words_le {W hi lo r third : Nat} (hlo : lo < W) (ht : third < W) : (hi < r ∨ hi = r ∧ lo ≤ third) ↔ hi * W + lo ≤ r * W + third := by
  constructor
  · rintro (h | ⟨rfl, h⟩)
    · have : (hi + 1) * W ≤ r * W := Nat.mul_le_mul_right _ h
      rw [Nat.add_mul] at this; omega
    · omega
  · intro h
    rcases Nat.lt_trichotomy hi r with h1 | h1 | h1
    · exact Or.inl h1
    · subst h1; exact Or.inr ⟨rfl, by omega⟩
    · exfalso
      have : (r + 1) * W ≤ hi * W := Nat.mul_le_mul_right _ h1
      rw [Nat.add_mul] at this; omega
end
end Go.Proofs.YtogkfpbapjjgfaaDoor
