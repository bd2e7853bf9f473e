/- The contracts of nat.Sub and shortMul. Conditions: fewer limbs than any slice can have. The contract of nat.Mul. Conditions: at most 2^30 limbs together. The contract of nat.Sqrt. Conditions: limbs; at most 2^27 of them. The contracts of nat's operations on numbers that are held, for the law NatRing. Conditions: at most 2^26 limbs. -/
import Derived.Test.YtogkfpbapjjgfaaDoorPkDv2
import Derived.Test.YtogkfpbapjjgfaaDoorPkDv6
import Derived.Test.YtogkfpbapjjgfaaDoorPkDv11
import Derived.Test.YtogkfpbapjjgfaaDoorPkDv18
import Derived.Test.YtogkfpbapjjgfaaDoorPkDv15
import Derived.Test.YtogkfpbapjjgfaaDoorPkDv4
namespace Go.Proofs.YtogkfpbapjjgfaaDoor
section
open Go.RowKit

/-- What Sub answers. -/
def SubOut (w w' : World) (m n : Nat) (e : Ending) : Prop :=
  ∃ zs A' c', e = .returned (.tuple #[.slice A' zs.length c', .int .i64 (if m < n then 10 else 0)]) ∧ Num 4294967296 zs (m - n) ∧ Res w' w.heap.size 31 A' c' (u32s zs) ∧ Below w.heap.size w w'

set_option maxHeartbeats 1600000 in
theorem sub_any (A A2 : Option Addr) (c c2 : Nat) (xs ys : List Nat) (w : World) (B : Nat) (hr : Rd w B A (u32s xs)) (hr2 : Rd w B A2 (u32s ys)) (hB : B ≤ w.heap.size) (hd : Dig 4294967296 xs) (hd2 : Dig 4294967296 ys) (hc : xs.length ≤ c) (hc2 : ys.length ≤ c2) (hm : xs.length ≤ 70368744170000) (hm2 : ys.length ≤ 70368744170000) :
    Calls Tryd.prog 35 #[.slice A xs.length c, .slice A2 ys.length c2] w fun e w' => SubOut w w' (val 4294967296 xs) (val 4294967296 ys) e := by
  have hl1 := trimL_length_le xs
  have hl2 := trimL_length_le ys
  obtain ⟨m, hmv⟩ : ∃ m, m = val 4294967296 xs := ⟨_, rfl⟩
  obtain ⟨n, hnv⟩ : ∃ n, n = val 4294967296 ys := ⟨_, rfl⟩
  have hn1 := Num.of_trim hd
  have hn2 := Num.of_trim hd2
  rw [← hmv] at hn1
  rw [← hnv] at hn2
  rw [← hmv, ← hnv]
  have hrt : Rd w B A (u32s (trimL xs)) := by rw [u32s_trim]; exact hr.take _
  have hrt2 : Rd w B A2 (u32s (trimL ys)) := by rw [u32s_trim]; exact hr2.take _
  obtain ⟨us, hps⟩ : ∃ us, us = trimL xs := ⟨_, rfl⟩
  obtain ⟨vs, hqs⟩ : ∃ vs, vs = trimL ys := ⟨_, rfl⟩
  rw [← hps] at hn1 hrt hl1
  rw [← hqs] at hn2 hrt2 hl2
  have Hps := Lib.hid hps
  have Hqs := Lib.hid hqs
  have Hm : Hid (val 4294967296 us = m) := hn1.2.2
  have Hn : Hid (val 4294967296 vs = n) := hn2.2.2
  have hdu := hn1.1
  have hdv := hn2.1
  have hm' : xs.length ≤ 281474976710656 := by omega
  have hm2' : ys.length ≤ 281474976710656 := by omega
  have hub : us.length ≤ 281474976710656 := by omega
  have hvb : vs.length ≤ 281474976710656 := by omega
  have huc : us.length ≤ c := by omega
  have hvc : vs.length ≤ c2 := by omega
  have hum : us.length ≤ 70368744177664 := by omega
  clear hps hqs hmv hnv
  rcases Nat.lt_or_ge m n with hlt | hge
  · have e1 : cmpN m n = -1 := by simp [cmpN, hlt]
    have He1 := Lib.hid e1
    have Hlt := Lib.hid hlt
    clear e1 hn1 hn2 hlt
    go_enter Tryd.func35, Tryd.ntmps35
    go_wp2_with (first
      | (go_at_call 37; (with_reducible refine (trim_any A c xs _ B hr hc hm').mono ?_); rintro e w' ⟨rfl, rfl⟩; rw [← Hps.out])
      | (go_at_call 37; (with_reducible refine (trim_any A2 c2 ys _ B hr2 hc2 hm2').mono ?_); rintro e w' ⟨rfl, rfl⟩; rw [← Hqs.out])
      | (go_at_call 36; (with_reducible refine (cmp_any A A2 c c2 us vs _ B hrt hrt2 hdu hdv huc hvc hub hvb).mono ?_); rintro e w2 ⟨rfl, nd, rfl⟩; rw [Hm.out, Hn.out, He1.out]))
    go_ret2
    have hlt := Hlt.out
    refine ⟨[], none, 0, by rw [if_pos hlt]; rfl, ?_, Res.none_, (Dr.refl w).step nd |>.below _⟩
    rw [show m - n = 0 from by omega]; exact Num.zero_ _
  · obtain ⟨cv, hcv⟩ : ∃ cv, cv = cmpN m n := ⟨_, rfl⟩
    have hcv0 : decide (cv < 0) = false := by
      rw [hcv]; unfold cmpN
      rw [if_neg (by omega)]
      split <;> decide
    have Hcv := Lib.hid hcv
    have hle : val 4294967296 vs ≤ val 4294967296 us := by rw [Hm.out, Hn.out]; exact hge
    have hll : vs.length ≤ us.length := by
      rcases Nat.lt_or_ge us.length vs.length with h | h
      · have := val_lt_len (by omega) hn1 hn2 h; omega
      · exact h
    have Hle := Lib.hid hle
    have Hge := Lib.hid hge
    clear hcv hle hge hn1 hn2
    have hmk := fun W => mk32 us.length hum W
    go_enter Tryd.func35, Tryd.ntmps35
    go_wp2_with (first
      | (go_at_call 37; (with_reducible refine (trim_any A c xs _ B hr hc hm').mono ?_); rintro e w' ⟨rfl, rfl⟩; rw [← Hps.out])
      | (go_at_call 37; (with_reducible refine (trim_any A2 c2 ys _ B hr2 hc2 hm2').mono ?_); rintro e w' ⟨rfl, rfl⟩; rw [← Hqs.out])
      | (go_at_call 36; (with_reducible refine (cmp_any A A2 c c2 us vs _ B hrt hrt2 hdu hdv huc hvc hub hvb).mono ?_); rintro e w2 ⟨rfl, nd, rfl⟩; rw [Hm.out, Hn.out, ← Hcv.out])
      | (go_at_call 64; (with_reducible refine (subtracter_any _).mono ?_); rintro e w1 ⟨rfl, hbc, hsz, hbel⟩))
    have hbc : Blk w1 (w.heap.size + 1) 24 [.int .u64 ((0 : Nat) : Int)] := by rw [szA] at hbc; exact hbc
    have hblk0 : Blk w1 w.heap.size 31 (u32s (List.replicate us.length 0)) := by
      have h0 : Blk ((w.drewN nd).alloc (.cells (Array.replicate us.length (Value.int .u32 0)) 31)) w.heap.size 31 (u32s (List.replicate us.length 0)) := Blk.new_ (w := w.drewN nd) (by simp [u32s])
      exact h0.below hbel (by rw [szA]; exact Nat.lt_succ_self _)
    have hbel1 : Below w.heap.size w w1 := ((Dr.refl w).step nd |>.below _).trans (((Below.refl _ _).alloc (Nat.le_refl _) _).trans (hbel.mono (by rw [szA]; exact Nat.le_succ _)))
    clear hbel hsz hr hr2
    go_loopw [8, 9, 25] (fun _ _ i wr => ∃ (k cc : Nat) (zs : List Nat), k ≤ vs.length ∧ i = .int .i64 k ∧ Blk wr w.heap.size 31 (u32s zs) ∧ Blk wr (w.heap.size + 1) 24 [.int .u64 (cc : Int)] ∧ Subbed us vs k zs cc ∧ Below w.heap.size w wr) (fun _ _ i _ => vs.length - (intOf i).toNat)
    case atStart => exact ⟨0, 0, _, by omega, rfl, hblk0, hbc, Subbed.start _ _, hbel1⟩
    case round =>
      clear hblk0 hbc hbel1
      obtain ⟨k, cc, zs, hk, rfl, hblk, hbc, hsu, hbel⟩ := hrel
      have hcc := hsu.2.1
      by_cases hlt : k < vs.length
      · have hku : k < us.length := by omega
        obtain ⟨b, off, rfl, hb, hx⟩ := hrt.at32 hku
        obtain ⟨b2, off2, rfl, hb2, hy⟩ := hrt2.at32 hlt
        have hx := (hbel.cell (p := ⟨b, off + k, none⟩) (show b < _ by omega)).trans hx
        have hy := (hbel.cell (p := ⟨b2, off2 + k, none⟩) (show b2 < _ by omega)).trans hy
        have hxd := hdu.at_ k hku
        have hyd := hdv.at_ k hlt
        have hz1 : k < zs.length := by rw [hsu.2.2.2.2]; exact hku
        go_wp2_with (go_at_call 86; (with_reducible refine (subtracter1_any _ _ cc _ _ hxd hyd hcc hbc).mono ?_); rintro e w2 ⟨rfl, hg2, hch⟩; have hq2 := hblk.ch hch (by omega); have hc2 := (hq2.cell k).trans (u32s_at hz1); have hf2 := hq2.frozen k)
        go_roundw
        case rel =>
          have h9 := hsu.step hz1 hdu hdv
          rw [at0_in hku, at0_in hlt] at h9
          refine ⟨k + 1, 1 - (4294967296 + us[k] - vs[k] - cc) / 4294967296, zs.set k ((4294967296 + us[k] - vs[k] - cc) % 4294967296), by omega, by go_num, ?_, hg2.far (p := ⟨w.heap.size, k, none⟩) (by simp) _, h9, (hbel.trans (hch.below (by omega))).setCell (p := ⟨w.heap.size, k, none⟩) (Nat.le_refl _) _⟩
          have hb2 := hq2.set_ k (Value.int IntKind.u32 (((4294967296 + us[k] - vs[k] - cc) % 4294967296 : Nat) : Int))
          rw [u32s_set] at hb2
          exact hb2
        case measure => simp [intOf]; omega
      · obtain rfl : k = vs.length := by omega
        go_wp2_with fail
        go_loopw [10] (fun i wr => ∃ (k cc : Nat) (zs : List Nat), vs.length ≤ k ∧ k ≤ us.length ∧ i = .int .i64 k ∧ Blk wr w.heap.size 31 (u32s zs) ∧ Blk wr (w.heap.size + 1) 24 [.int .u64 (cc : Int)] ∧ Subbed us vs k zs cc ∧ Below w.heap.size w wr) (fun i _ => us.length - (intOf i).toNat)
        case atStart => exact ⟨vs.length, cc, zs, by omega, hll, rfl, hblk, hbc, hsu, hbel⟩
        case round =>
          clear hblk hbc hsu hbel hcc
          obtain ⟨k, cc, zs, hkv, hk, rfl, hblk, hbc, hsu, hbel⟩ := hrel
          have hcc := hsu.2.1
          by_cases hlt : k < us.length
          · obtain ⟨b, off, rfl, hb, hx⟩ := hrt.at32 hlt
            have hx := (hbel.cell (p := ⟨b, off + k, none⟩) (show b < _ by omega)).trans hx
            have hxd := hdu.at_ k hlt
            have hz1 : k < zs.length := by rw [hsu.2.2.2.2]; exact hlt
            go_wp2_with fail
            refine (subtracter1_any us[k] 0 cc _ _ hxd (by omega) hcc hbc).mono ?_
            rintro e w2 ⟨rfl, hg2, hch⟩
            have hq2 := hblk.ch hch (by omega)
            have hc2 := (hq2.cell k).trans (u32s_at hz1)
            have hf2 := hq2.frozen k
            go_wp2_with fail
            go_roundw
            case rel =>
              have h9 := hsu.step hz1 hdu hdv
              rw [at0_in hlt, at0_out hkv] at h9
              refine ⟨k + 1, 1 - (4294967296 + us[k] - 0 - cc) / 4294967296, zs.set k ((4294967296 + us[k] - 0 - cc) % 4294967296), by omega, by omega, by go_num, ?_, hg2.far (p := ⟨w.heap.size, k, none⟩) (by simp) _, h9, (hbel.trans (hch.below (by omega))).setCell (p := ⟨w.heap.size, k, none⟩) (Nat.le_refl _) _⟩
              have hb2 := hq2.set_ k (Value.int IntKind.u32 (((4294967296 + us[k] - 0 - cc) % 4294967296 : Nat) : Int))
              rw [u32s_set] at hb2
              exact hb2
            case measure => simp [intOf]; omega
          · obtain rfl : k = us.length := by omega
            have hl2 : Hid (zs.length = us.length) := hsu.2.2.2.2
            have hm2 : zs.length ≤ 281474976710656 := by have := hl2.out; omega
            have Hlv : Hid (val 4294967296 zs = m - n) := by
              have := hsu.last hdu hdv Hle.out
              rw [Hm.out, Hn.out] at this
              exact this
            have hrd := (Res.of_blk0 hblk (Nat.le_refl _) (by rw [u32s_length]; omega)).rd
            go_wp2_with (go_at_call 37; rw [← hl2.out]; refine (trim_any _ _ zs _ _ hrd (Nat.le_refl _) hm2).mono ?_; rintro e w3 ⟨rfl, rfl⟩)
            go_ret2
            have hge := Hge.out
            refine ⟨trimL zs, _, _, by rw [if_neg (by omega)]; rfl, ?_, ?_, hbel⟩
            · have hz := Num.of_trim hsu.1
              rw [Hlv.out] at hz
              exact hz
            · have h3 := (Res.of_blk0 hblk (Nat.le_refl _) (by rw [u32s_length]; omega)).take (trimL zs).length
              rw [← u32s_trim, u32s_length] at h3
              exact h3

theorem mul_T {b : Nat} {us : List Nat} {k v : Nat} (hu : k < us.length) : val b (us.take k) * v + b ^ k * (us[k] * v) = val b (us.take (k + 1)) * v := by
  rw [val_take_succ b us k hu, Nat.add_mul, Nat.mul_assoc]
theorem carry_mul {c x v : Nat} {B : Nat} (hc : c < B) (hx : x < B) (hv : v < B) : (c + x * v) / B < B := by
  rw [Nat.div_lt_iff_lt_mul (by omega)]
  have h1 : x * v ≤ (B - 1) * (B - 1) := Nat.mul_le_mul (by omega) (by omega)
  obtain ⟨q, rfl⟩ : ∃ q, B = q + 1 := ⟨B - 1, by omega⟩
  have h2 : (q + 1) * (q + 1) = q * q + q + q + 1 := by rw [Nat.add_mul, Nat.mul_add]; omega
  rw [h2]
  simp only [Nat.add_sub_cancel] at h1
  omega

set_option maxHeartbeats 1600000 in
theorem shortMul_any (A : Option Addr) (c : Nat) (us : List Nat) (v : Nat) (w : World) (B : Nat) (hru : Rd w B A (u32s us)) (hB : B ≤ w.heap.size) (hdu : Dig 4294967296 us) (hv : v < 4294967296) (hm : us.length ≤ 70368744170000) :
    Calls Tryd.prog 62 #[.slice A us.length c, .int .u32 (v : Int)] w fun e w' => ∃ zs A' c', e = .returned (.slice A' zs.length c') ∧ Num 4294967296 zs (val 4294967296 us * v) ∧ Res w' w.heap.size 31 A' c' (u32s zs) ∧ Below w.heap.size w w' := by
  have hmk := fun W => mk32s us.length (by omega) W
  go_enter Tryd.func62, Tryd.ntmps62
  go_wp2_with (go_at_call 81; (with_reducible refine (scaler_any _ _).mono ?_); rintro e w1 ⟨rfl, hbn, hbc, hsz, hbel⟩)
  rw [szA] at hbn hbc hsz hbel
  have hblk0 : Blk w1 w.heap.size 31 (u32s (List.replicate (us.length + 1) 0)) := by
    have h0 : Blk (w.alloc (.cells (Array.replicate (us.length + 1) (Value.int .u32 0)) 31)) w.heap.size 31 (u32s (List.replicate (us.length + 1) 0)) := Blk.new_ (by simp [u32s])
    exact h0.below hbel (by omega)
  have hbel1 : Below w.heap.size w w1 := ((Below.refl _ _).alloc (Nat.le_refl _) _).trans (hbel.mono (by omega))
  clear hbel hsz
  obtain ⟨os, hos⟩ : ∃ os, os = List.replicate (us.length + 1) 0 := ⟨_, rfl⟩
  have hol : os.length = us.length + 1 := by rw [hos]; simp
  have ho0 : Hid (∀ k (h : k < os.length), os[k] = 0) := by subst hos; exact fun k h => by simp
  have hov : Hid (val 4294967296 os = 0) := by rw [hos]; exact val_zeros _ _
  have hod : Dig 4294967296 os := by rw [hos]; exact Dig.zeros_ (by omega) _
  rw [← hos] at hblk0
  have Hol := Lib.hid hol
  clear hos hol
  go_loopw [7, 8, 17] (fun _ _ i wr => ∃ (k cc : Nat) (zs : List Nat), k ≤ us.length ∧ i = .int .i64 k ∧ cc < 4294967296 ∧ Blk wr w.heap.size 31 (u32s zs) ∧ Blk wr (w.heap.size + 1) 31 [.int .u32 (v : Int)] ∧ Blk wr (w.heap.size + 1 + 1) 24 [.int .u64 (cc : Int)] ∧ Acc 4294967296 os (val 4294967296 (us.take k) * v) k zs cc ∧ Below w.heap.size w wr) (fun _ _ i _ => us.length - (intOf i).toNat)
  case atStart => exact ⟨0, 0, os, by omega, rfl, by omega, hblk0, hbn, hbc, by simpa [val] using Acc.start hod, hbel1⟩
  case round =>
    clear hblk0 hbc hbn hbel1
    obtain ⟨k, cc, zs, hk, rfl, hcc, hblk, hbn, hbc, hacc, hbel⟩ := hrel
    by_cases hlt : k < us.length
    · obtain ⟨b, off, rfl, hb, hx⟩ := hru.at32 hlt
      have hx := (hbel.cell (p := ⟨b, off + k, none⟩) (show b < _ by omega)).trans hx
      have hxd := hdu.at_ k hlt
      have hz1 : k < zs.length := by have := hacc.2.1.trans Hol.out; omega
      have hko : k < os.length := by have := Hol.out; omega
      go_wp2_with (go_at_call 99; (with_reducible refine (scaler1_any _ v cc _ _ _ hxd hv hcc hbc hbn (by omega)).mono ?_); rintro e w2 ⟨rfl, hg2, hch⟩; have hq2 := hblk.ch hch (by omega); have hc2 := (hq2.cell k).trans (u32s_at hz1); have hf2 := hq2.frozen k)
      go_roundw
      case rel =>
        have h9 := hacc.step (d := us[k] * v) (r := (cc + us[k] * v) % 4294967296) (q := (cc + us[k] * v) / 4294967296) hko (by omega) (by rw [ho0.out k hko]; omega)
        rw [mul_T hlt] at h9
        refine ⟨k + 1, (cc + us[k] * v) / 4294967296, zs.set k ((cc + us[k] * v) % 4294967296), by omega, by go_num, carry_mul hcc hxd hv, ?_, (hbn.ch hch (by omega)).far (p := ⟨w.heap.size, k, none⟩) (by simp) _, hg2.far (p := ⟨w.heap.size, k, none⟩) (by simp; omega) _, h9, (hbel.trans (hch.below (by omega))).setCell (p := ⟨w.heap.size, k, none⟩) (Nat.le_refl _) _⟩
        have hb2 := hq2.set_ k (Value.int IntKind.u32 (((cc + us[k] * v) % 4294967296 : Nat) : Int))
        rw [u32s_set] at hb2
        exact hb2
      case measure => simp [intOf]; omega
    · obtain rfl : k = us.length := by omega
      have hz1 : us.length < zs.length := by have := hacc.2.1.trans Hol.out; omega
      have hko : us.length < os.length := by have := Hol.out; omega
      go_wp2_with fail
      refine (scaler1_any 0 v cc _ _ _ (by omega) hv hcc hbc hbn (by omega)).mono ?_
      rw [show cc + 0 * v = cc from by omega]
      rintro e w2 ⟨rfl, hg2, hch⟩
      have hq2 := hblk.ch hch (by omega)
      have hc2 := (hq2.cell us.length).trans (u32s_at hz1)
      have hf2 := hq2.frozen us.length
      have hb2 : Blk (w2.setCell ⟨w.heap.size, us.length, none⟩ (.int .u32 ((cc % 4294967296 : Nat) : Int))) w.heap.size 31 (u32s (zs.set us.length (cc % 4294967296))) := by
        have := hq2.set_ us.length (Value.int IntKind.u32 ((cc % 4294967296 : Nat) : Int))
        rwa [u32s_set] at this
      have h9 := hacc.step (d := 0) (r := cc % 4294967296) (q := cc / 4294967296) hko (by omega) (by rw [ho0.out _ hko]; omega)
      obtain ⟨zs2, hzs2⟩ : ∃ zs2, zs2 = zs.set us.length (cc % 4294967296) := ⟨_, rfl⟩
      rw [← hzs2] at hb2 h9
      have hl2 : Hid (zs2.length = us.length + 1) := h9.2.1.trans Hol.out
      have hm2 : zs2.length ≤ 281474976710656 := by have := hl2.out; omega
      have Hlv : Hid (val 4294967296 zs2 = val 4294967296 us * v) := by
        have := h9.done (by omega)
        rw [hov.out, List.take_length, Nat.mul_zero, Nat.add_zero, Nat.zero_add] at this
        exact this
      have ld := h9.1
      have hbel3 := (hbel.trans (hch.below (B := w.heap.size) (by omega))).setCell (p := ⟨w.heap.size, us.length, none⟩) (Nat.le_refl _) (.int .u32 ((cc % 4294967296 : Nat) : Int))
      clear hzs2 h9
      have hrd := (Res.of_blk0 hb2 (Nat.le_refl _) (by rw [u32s_length]; omega)).rd
      go_wp2_with (go_at_call 37; rw [← hl2.out]; refine (trim_any _ _ zs2 _ _ hrd (Nat.le_refl _) hm2).mono ?_; rintro e w3 ⟨rfl, rfl⟩)
      go_ret
      refine ⟨trimL zs2, _, _, rfl, ?_, ?_, hbel3⟩
      · have hz := Num.of_trim ld
        rw [Hlv.out] at hz
        exact hz
      · have h3 := (Res.of_blk0 hb2 (Nat.le_refl _) (by rw [u32s_length]; omega)).take (trimL zs2).length
        rw [← u32s_trim, u32s_length] at h3
        exact h3
end
section
open Go.RowKit

theorem num_eq {b m n : Nat} {zs : List Nat} (h : Num b zs m) (e : m = n) : Num b zs n := e ▸ h

set_option maxHeartbeats 1600000 in
theorem mul_any (A A2 : Option Addr) (c c2 : Nat) (xs ys : List Nat) (w : World) (B : Nat) (hr : Rd w B A (u32s xs)) (hr2 : Rd w B A2 (u32s ys)) (hB : B ≤ w.heap.size) (hd : Dig 4294967296 xs) (hd2 : Dig 4294967296 ys) (hc : xs.length ≤ c) (hc2 : ys.length ≤ c2) (hm : xs.length ≤ 281474976710656) (hm2 : ys.length ≤ 281474976710656) (hmm : (trimL xs).length + (trimL ys).length ≤ 1073741820) :
    Calls Tryd.prog 34 #[.slice A xs.length c, .slice A2 ys.length c2] w fun e w' => ∃ zs A' c', e = .returned (.slice A' zs.length c') ∧ Num 4294967296 zs (val 4294967296 xs * val 4294967296 ys) ∧ Res w' w.heap.size 31 A' c' (u32s zs) ∧ Below w.heap.size w w' := by
  have hl1 := trimL_length_le xs
  have hl2 := trimL_length_le ys
  obtain ⟨m, hmv⟩ : ∃ m, m = val 4294967296 xs := ⟨_, rfl⟩
  obtain ⟨n, hnv⟩ : ∃ n, n = val 4294967296 ys := ⟨_, rfl⟩
  have hn1 := Num.of_trim hd
  have hn2 := Num.of_trim hd2
  rw [← hmv] at hn1
  rw [← hnv] at hn2
  rw [← hmv, ← hnv]
  have hrt : Rd w B A (u32s (trimL xs)) := by rw [u32s_trim]; exact hr.take _
  have hrt2 : Rd w B A2 (u32s (trimL ys)) := by rw [u32s_trim]; exact hr2.take _
  obtain ⟨ps, hps⟩ : ∃ ps, ps = trimL xs := ⟨_, rfl⟩
  obtain ⟨qs, hqs⟩ : ∃ qs, qs = trimL ys := ⟨_, rfl⟩
  rw [← hps] at hn1 hrt hl1 hmm
  rw [← hqs] at hn2 hrt2 hl2 hmm
  have Hps := Lib.hid hps
  have Hqs := Lib.hid hqs
  have hdp := hn1.1
  have hdq := hn2.1
  have Hm : Hid (val 4294967296 ps = m) := hn1.2.2
  have Hn : Hid (val 4294967296 qs = n) := hn2.2.2
  clear hps hqs hmv hnv
  by_cases hp0 : ps = []
  · have hm0 : m = 0 := (hn1.nil_iff (by omega)).1 hp0
    have t1 : ((ps.length : Int) == 0) = true := by rw [hp0]; rfl
    have Hm0 := Lib.hid hm0
    clear hm0 hp0 hn1 hn2
    go_enter Tryd.func34, Tryd.ntmps34
    go_wp2_with (first
      | (go_at_call 37; (with_reducible refine (trim_any A c xs _ B hr hc hm).mono ?_); rintro e w' ⟨rfl, rfl⟩; rw [← Hps.out])
      | (go_at_call 37; (with_reducible refine (trim_any A2 c2 ys _ B hr2 hc2 hm2).mono ?_); rintro e w' ⟨rfl, rfl⟩; rw [← Hqs.out]))
    go_ret
    exact ⟨[], none, 0, rfl, by rw [Hm0.out, Nat.zero_mul]; exact Num.zero_ _, Res.none_, Below.refl _ _⟩
  have hpl : 0 < ps.length := by
    rcases Nat.eq_zero_or_pos ps.length with h | h
    · exact absurd (List.eq_nil_of_length_eq_zero h) hp0
    · exact h
  have t1 : ((ps.length : Int) == 0) = false := by simp; omega
  by_cases hq0 : qs = []
  · have hm0 : n = 0 := (hn2.nil_iff (by omega)).1 hq0
    have t2 : ((qs.length : Int) == 0) = true := by rw [hq0]; rfl
    have Hm0 := Lib.hid hm0
    clear hm0 hq0 hn1 hn2 hp0
    go_enter Tryd.func34, Tryd.ntmps34
    go_wp2_with (first
      | (go_at_call 37; (with_reducible refine (trim_any A c xs _ B hr hc hm).mono ?_); rintro e w' ⟨rfl, rfl⟩; rw [← Hps.out])
      | (go_at_call 37; (with_reducible refine (trim_any A2 c2 ys _ B hr2 hc2 hm2).mono ?_); rintro e w' ⟨rfl, rfl⟩; rw [← Hqs.out]))
    go_ret
    exact ⟨[], none, 0, rfl, by rw [Hm0.out, Nat.mul_zero]; exact Num.zero_ _, Res.none_, Below.refl _ _⟩
  have hql : 0 < qs.length := by
    rcases Nat.eq_zero_or_pos qs.length with h | h
    · exact absurd (List.eq_nil_of_length_eq_zero h) hq0
    · exact h
  have t2 : ((qs.length : Int) == 0) = false := by simp; omega
  have hpc : ps.length ≤ c := by omega
  have hqc : qs.length ≤ c2 := by omega
  clear hn1 hn2 hp0 hq0
  go_enter Tryd.func34, Tryd.ntmps34
  go_upto_if 23 with (first
    | (go_at_call 37; (with_reducible refine (trim_any A c xs _ B hr hc hm).mono ?_); rintro e w' ⟨rfl, rfl⟩; rw [← Hps.out])
    | (go_at_call 37; (with_reducible refine (trim_any A2 c2 ys _ B hr2 hc2 hm2).mono ?_); rintro e w' ⟨rfl, rfl⟩; rw [← Hqs.out]))
  go_cut [0, 1] (fun s0 s1 wc => ∃ (D D2 : Option Addr) (d d2 : Nat) (us vs : List Nat), s0 = .slice D us.length d ∧ s1 = .slice D2 vs.length d2 ∧ vs.length ≤ us.length ∧ 0 < vs.length ∧ us.length + vs.length ≤ 1073741820 ∧ Dig 4294967296 us ∧ Dig 4294967296 vs ∧ Hid (val 4294967296 us * val 4294967296 vs = m * n) ∧ Rd w B D (u32s us) ∧ Rd w B D2 (u32s vs) ∧ us.length ≤ d ∧ vs.length ≤ d2 ∧ wc = w)
  case first =>
    by_cases hlt : ps.length < qs.length
    · go_wp2
      go_meet
      exact ⟨A2, A, c2, c, qs, ps, rfl, rfl, by omega, hpl, by omega, hdq, hdp, Lib.hid (by rw [Hm.out, Hn.out, Nat.mul_comm]), hrt2, hrt, hqc, hpc, rfl⟩
    · go_wp2
      go_meet
      exact ⟨A, A2, c, c2, ps, qs, rfl, rfl, by omega, hql, by omega, hdp, hdq, Lib.hid (by rw [Hm.out, Hn.out]), hrt, hrt2, hpc, hqc, rfl⟩
  case rest =>
    clear hr hr2 hd hd2 hc hc2 hm hm2 hl1 hl2 hrt hrt2 Hps Hqs hdp hdq Hm Hn hpc hqc t1 t2 hpl hql hmm
    obtain ⟨D, D2, d, d2, us, vs, rfl, rfl, hle, hv0, hub, hdu, hdv, Hval, hru, hrv, hud, hvd, rfl⟩ := hcut
    by_cases h2 : us.length ≤ 2
    · have t1 : decide ((us.length : Int) ≤ 2) = true := by simp; omega
      have hx := val_lt _ us hdu
      have hy := val_lt _ vs hdv
      have hp2 : (4294967296 : Nat) ^ us.length ≤ 4294967296 ^ 2 := Nat.pow_le_pow_right (by omega) h2
      have hp3 : (4294967296 : Nat) ^ vs.length ≤ 4294967296 ^ 2 := Nat.pow_le_pow_right (by omega) (by omega)
      rw [show (4294967296 : Nat) ^ 2 = 18446744073709551616 from rfl] at hp2 hp3
      obtain ⟨x, hxe⟩ : ∃ x, x = val 4294967296 us := ⟨_, rfl⟩
      obtain ⟨y, hye⟩ : ∃ y, y = val 4294967296 vs := ⟨_, rfl⟩
      have hxb : x < 18446744073709551616 := by rw [hxe]; exact Nat.lt_of_lt_of_le hx hp2
      have hyb : y < 18446744073709551616 := by rw [hye]; exact Nat.lt_of_lt_of_le hy hp3
      have Hxy := Hval.out
      rw [← hxe, ← hye] at Hxy
      have hwx := fun W hW => word_any D d us W B (hru.dr (w' := W) hW) hdu h2
      have hwy := fun W hW => word_any D2 d2 vs W B (hrv.dr (w' := W) hW) hdv (by omega)
      rw [← hxe] at hwx
      rw [← hye] at hwy
      have Hwx := Lib.hid hwx
      have Hwy := Lib.hid hwy
      have hmul := fun W => mul64_any x y W hxb hyb
      obtain ⟨hi, hhi⟩ : ∃ hi, hi = x * y / 18446744073709551616 := ⟨_, rfl⟩
      obtain ⟨lo, hlo⟩ : ∃ lo, lo = x * y % 18446744073709551616 := ⟨_, rfl⟩
      rw [← hhi, ← hlo] at hmul
      have hv : val 18446744073709551616 [lo, hi] = m * n := by
        rw [← Hxy]; simp only [val]; rw [hhi, hlo]; omega
      have hib : hi < 18446744073709551616 := by
        rw [hhi, Nat.div_lt_iff_lt_mul (by omega)]
        have : x * y ≤ 18446744073709551615 * 18446744073709551615 := Nat.mul_le_mul (by omega) (by omega)
        omega
      have hlb : lo < 18446744073709551616 := by rw [hlo]; exact Nat.mod_lt _ (by omega)
      have Hv := Lib.hid hv
      have Hmul := Lib.hid hmul
      clear hhi hlo hv hmul hwx hwy hxe hye hx hy hp2 hp3 Hxy
      go_wp2_with (first
        | (go_at_call 38; (with_reducible refine (Hwx.out _ (by first | exact Dr.refl _ | assumption)).mono ?_); rintro e wx ⟨rfl, hdx⟩)
        | (go_at_call 38; (with_reducible refine (Hwy.out _ (by first | exact Dr.refl _ | assumption)).mono ?_); rintro e wy ⟨rfl, hdy⟩)
        | (go_at_call 61; (with_reducible refine (Hmul.out _).mono ?_); rintro e w' ⟨rfl, rfl⟩))
      have hwb : Below wc.heap.size wc wy := (hdx.below _).trans (hdy.below _)
      have hblk : Blk (wy.alloc (.cells #[.int .u64 (lo : Int), .int .u64 (hi : Int)] 24)) wy.heap.size 24 (u64s [lo, hi]) := Blk.new_ rfl
      refine (narrow_any (some ⟨wy.heap.size, 0, none⟩) 2 [lo, hi] _ (wy.heap.size + 1) (Rd.of_blk hblk (Nat.lt_succ_self _) 0 (fun k v hv => by rw [Nat.zero_add]; exact hv)) (by rw [szA]; exact Nat.le_refl _) (Dig.cons_ hlb (Dig.cons_ hib (Dig.nil_ _))) (by simp) (by simp)).mono ?_
      rintro e w3 ⟨zs, A', c', rfl, hz, hres, hb3⟩
      rw [szA] at hres hb3
      have hwz := hwb.size
      go_wp2_with fail
      go_ret
      exact ⟨zs, A', c', rfl, num_eq hz Hv.out, hres.mono (by omega), (hwb.alloc hwz _).trans (hb3.mono (by omega))⟩
    · have t1 : decide ((us.length : Int) ≤ 2) = false := by simp; omega
      by_cases h1 : vs.length = 1
      · obtain ⟨v, rfl⟩ := len_one h1
        have hvv : v < 4294967296 := hdv.head_
        have Hval2 : Hid (val 4294967296 us * v = m * n) := by
          have := Hval.out
          simp only [val, Nat.mul_zero, Nat.add_zero] at this
          exact this
        obtain ⟨b, off, rfl, hb, hx⟩ := hrv.at32 (k := 0) (by simp)
        have hx0 : wc.cell? ⟨b, off, none⟩ = some (.int .u32 (v : Int)) := hx
        clear hx h1
        go_wp2_with fail
        refine (shortMul_any D d us v _ B hru hB hdu hvv (by omega)).mono ?_
        rintro e w3 ⟨zs, A', c', rfl, hz, hres, hb3⟩
        go_wp2_with fail
        go_ret
        exact ⟨zs, A', c', rfl, num_eq hz Hval2.out, hres, hb3⟩
      · have t2 : ((vs.length : Int) == 1) = false := by simp; omega
        have hw1 := wide_any D d us wc B hru hB hdu hud (by omega)
        have Hw1 := Lib.hid hw1
        clear hw1
        go_wp2_with fail
        refine Hw1.out.mono ?_
        rintro e w1 ⟨ks, A1, c1, rfl, hal, had, hav, hares, hb1⟩
        have Hal := Lib.hid hal
        have Hav := Lib.hid hav
        clear hal hav
        go_wp2_with fail
        refine (wide_any D2 d2 vs w1 B (hrv.below (hb1.mono hB)) (Nat.le_trans hB hb1.size) hdv hvd (by omega)).mono ?_
        rintro e w2 ⟨bs, A3, c3, rfl, hbl, hbd, hbv, hbres, hb2⟩
        have Hbl := Lib.hid hbl
        have Hbv := Lib.hid hbv
        clear hbl hbv
        have hra : Rd w2 w2.heap.size A1 (u64s ks) := (hares.below hb2 (Nat.le_refl _)).rd
        have hca := hares.1
        have hcb := hbres.1
        rw [u64s_length] at hca hcb
        go_wp2_with fail
        refine (product_any A1 A3 c1 c3 ks bs w2 w2.heap.size hra hbres.rd (Nat.le_refl _) had hbd hca hcb (by have := Hal.out; have := Hbl.out; omega)).mono ?_
        rintro e w3 ⟨ps2, g, rfl, hpl, hpd, hpv, hg, hblk, hb3⟩
        have Hpl := Lib.hid hpl
        have Hpv := Lib.hid hpv
        clear hpl hpv
        go_wp2_with fail
        refine (narrow_any (some ⟨g, 0, none⟩) ps2.length ps2 w3 w3.heap.size (Rd.of_blk hblk hblk.lt 0 (fun k v hv => by rw [Nat.zero_add]; exact hv)) (Nat.le_refl _) hpd (Nat.le_refl _) (by have := Hpl.out; have := Hal.out; have := Hbl.out; omega)).mono ?_
        rintro e w4 ⟨zs, A', c', rfl, hz, hres, hb4⟩
        have hs1 := hb1.size
        have hs2 := hb2.size
        have hs3 := hb3.size
        go_wp2_with fail
        go_ret
        exact ⟨zs, A', c', rfl, num_eq hz (by rw [Hpv.out, Hav.out, Hbv.out, Hval.out]), hres.mono (by omega), hb1.trans ((hb2.mono hs1).trans ((hb3.mono (by omega)).trans (hb4.mono (by omega))))⟩
end
section
open Go.RowKit

def SqrtOut (w w' : World) (m : Nat) (e : Ending) : Prop :=
  ∃ zs A' c' s, e = .returned (.slice A' zs.length c') ∧ Num 4294967296 zs s ∧ IsRoot m s ∧ Res w' w.heap.size 31 A' c' (u32s zs) ∧ Below w.heap.size w w'
def SqrtOk (m : Nat) : Prop :=
  ∀ (A : Option Addr) (c : Nat) (xs : List Nat) (w : World) (B : Nat), Rd w B A (u32s xs) → B ≤ w.heap.size → Dig 4294967296 xs → val 4294967296 xs = m → xs.length ≤ c → xs.length ≤ 134217728 → Calls Tryd.prog 28 #[.slice A xs.length c] w fun e w' => SqrtOut w w' m e
/-- A slice of limbs that is held. -/
structure Hd (w : World) (A : Option Addr) (c : Nat) (xs : List Nat) (n N : Nat) : Prop where
  num : Num 4294967296 xs n
  rd : Rd w w.heap.size A (u32s xs)
  cap : xs.length ≤ c
  len : xs.length ≤ N
theorem Hd.next {w w' : World} {A : Option Addr} {c n N : Nat} {xs : List Nat} (h : Hd w A c xs n N) (hb : Below w.heap.size w w') : Hd w' A c xs n N := ⟨h.num, (h.rd.below hb).mono hb.size, h.cap, h.len⟩
theorem num32_len {zs : List Nat} {n m N : Nat} (h : Num 4294967296 zs n) (hle : n ≤ m) (hm : m < 4294967296 ^ N) : zs.length ≤ N := by
  have := trimL_len_le (b := 4294967296) (N := N) (by omega) h.1 (by rw [h.2.2]; omega)
  rwa [h.2.1] at this
theorem Hd.of {w : World} {B : Nat} {A : Option Addr} {c n m N : Nat} {xs : List Nat} (h : Num 4294967296 xs n) (hr : Res w B 31 A c (u32s xs)) (hle : n ≤ m) (hm : m < 4294967296 ^ N) : Hd w A c xs n N :=
  ⟨h, hr.rd, by have := hr.1; rwa [u32s_length] at this, num32_len h hle hm⟩
theorem sqrt_drop {m : Nat} (h : 18446744073709551616 ≤ m) : 1 ≤ Nat.log2 m / 4 ∧ 1 ≤ m / 2 ^ (2 * (Nat.log2 m / 4)) ∧ m / 2 ^ (2 * (Nat.log2 m / 4)) < m := by
  have h0 : m ≠ 0 := by omega
  have h1 : 64 ≤ Nat.log2 m := (Nat.le_log2 h0).2 (by rw [show (2 : Nat) ^ 64 = 18446744073709551616 from by decide]; exact h)
  have h2 := Nat.log2_self_le h0
  refine ⟨by omega, ?_, ?_⟩
  · refine (Nat.le_div_iff_mul_le (Nat.two_pow_pos _)).2 ?_
    rw [Nat.one_mul]
    exact Nat.le_trans (Nat.pow_le_pow_right (by omega) (by omega)) h2
  · refine Nat.div_lt_self (by omega) ?_
    have : 2 ^ 1 ≤ 2 ^ (2 * (Nat.log2 m / 4)) := Nat.pow_le_pow_right (by omega) (by omega)
    omega
theorem root_up {m s d : Nat} (h : s * s ≤ m / 2 ^ (2 * d)) : s * 2 ^ d * (s * 2 ^ d) ≤ m := by
  have e : s * 2 ^ d * (s * 2 ^ d) = s * s * 2 ^ (2 * d) := by
    rw [show 2 * d = d + d from by omega, Nat.pow_add]; grind
  rw [e]
  exact Nat.le_trans (Nat.mul_le_mul_right _ h) (Nat.div_mul_le_self _ _)
theorem self_le_sq {x m : Nat} (h : x * x ≤ m) : x ≤ m := by
  rcases Nat.eq_zero_or_pos x with h0 | h0
  · omega
  · exact Nat.le_trans (Nat.le_mul_of_pos_left _ h0) h

set_option maxHeartbeats 6400000 in
set_option maxRecDepth 100000 in
theorem sqrt_any : ∀ m, SqrtOk m := fun m => by
  induction m using Nat.strongRecOn with
  | _ m ih =>
    intro A c xs w B hr hB hd hv hc hm
    have hn : Num 4294967296 (trimL xs) m := by rw [← hv]; exact Num.of_trim hd
    have hl := trimL_length_le xs
    have hrt : Rd w B A (u32s (trimL xs)) := by rw [u32s_trim]; exact hr.take _
    have T0 := Lib.hid (trim_any A c xs w B hr hc (by omega))
    obtain ⟨ps, hps⟩ : ∃ ps, ps = trimL xs := ⟨_, rfl⟩
    rw [← hps] at hn hl hrt T0
    clear hps
    by_cases h2 : ps.length ≤ 2
    · have hm64 : m < 18446744073709551616 := by
        have h1 := hn.lt
        have h3 : 4294967296 ^ ps.length ≤ 4294967296 ^ 2 := Nat.pow_le_pow_right (by omega) h2
        omega
      have t1 : decide (ps.length ≤ 2) = true := decide_eq_true h2
      have W1 := Lib.hid (word_any A c ps w B hrt hn.1 h2)
      rw [hn.2.2] at W1
      go_enter Tryd.func28, Tryd.ntmps28
      go_wp2_with (first
        | (go_at_call 37; (with_reducible refine T0.out.mono ?_); rintro e w' ⟨rfl, rfl⟩)
        | simp only []
        | (go_at_call 38; (with_reducible refine W1.out.mono ?_); rintro e w1 ⟨rfl, hdr⟩)
        | (go_at_call 54; (with_reducible refine (wordRoot_any m hm64 _).mono ?_); rintro e w2 ⟨⟨s, rfl, hs, hsb⟩, rfl⟩)
        | (go_at_call 12; (with_reducible refine (of_any s (by omega) _).mono ?_); rintro e w3 ⟨zs, A1, c1, rfl, hz, hres, hb⟩))
      go_ret
      have hb0 := hdr.below w.heap.size
      exact ⟨zs, A1, c1, s, rfl, hz, hs, hres.mono hb0.size, hb0.trans (hb.mono hb0.size)⟩
    · have t1 : decide (ps.length ≤ 2) = false := decide_eq_false h2
      have hm64 : 18446744073709551616 ≤ m := by
        have h1 := hn.ge (by intro e; rw [e] at h2; simp at h2)
        have h3 : 4294967296 ^ 2 ≤ 4294967296 ^ (ps.length - 1) := Nat.pow_le_pow_right (by omega) (by omega)
        omega
      obtain ⟨d1, d2, d3⟩ := sqrt_drop hm64
      obtain ⟨D, hD⟩ : ∃ D, D = Nat.log2 m / 4 := ⟨_, rfl⟩
      rw [← hD] at d1 d2 d3
      obtain ⟨NN, hNN⟩ : ∃ NN, NN = ps.length := ⟨_, rfl⟩
      have hmN : m < 4294967296 ^ NN := by rw [hNN]; exact hn.lt
      have hNb : NN ≤ 134217728 := by omega
      have hDl : D ≤ 8 * NN := by
        have h3 : Nat.log2 m < 32 * NN := (Nat.log2_lt (by omega)).2 (by
          rw [Nat.pow_mul]; exact hmN)
        omega
      have hP : Hd w A c ps m NN := ⟨hn, hrt.mono hB, by omega, by omega⟩
      have L1 := Lib.hid (len_any A c ps w B hrt hn.1 (by omega) (by omega))
      have hbits : bitsOf m = Nat.log2 m + 1 := by unfold bitsOf; rw [if_neg (by omega)]
      rw [hn.2.2, hbits] at L1
      have e1 : (((Nat.log2 m + 1 : Nat) : Int) - 1) / 4 = (D : Int) := by omega
      have e1b : ((Nat.log2 m : Int) + 1 - 1) / 4 = (D : Int) := by omega
      have e1c : (Nat.log2 m : Int) / 4 = (D : Int) := by omega
      have hlog : Nat.log2 m < 4294967296 := by
        have h3 : Nat.log2 m < 32 * NN := (Nat.log2_lt (by omega)).2 (by
          rw [Nat.pow_mul]; exact hmN)
        omega
      have R1 := Lib.hid (right_any A c ps (2 * (D : Int)) w B hrt hB hn.1 (by omega) (by omega) (by omega))
      rw [hn.2.2] at R1
      have hD2 : ¬ (2 * (D : Int) < 0) := by omega
      have HD := Lib.hid hD
      obtain ⟨lg, hlg⟩ : ∃ lg, lg = Nat.log2 m := ⟨_, rfl⟩
      rw [← hlg] at L1 e1 e1b e1c hlog
      clear hD hlg hbits hNN
      go_enter Tryd.func28, Tryd.ntmps28
      go_upto_region 6 with (first
        | (go_at_call 37; (with_reducible refine T0.out.mono ?_); rintro e w' ⟨rfl, rfl⟩)
        | simp only []
        | simp only [e1]
        | simp only [e1b]
        | simp only [e1c]
        | (go_at_call 14; (with_reducible refine L1.out.mono ?_); rintro e w' ⟨rfl, rfl⟩)
        | (go_at_call 55; (with_reducible refine R1.out.mono ?_); rintro e w1 ⟨hs, A1, c1, rfl, hhn, hres1, hb1⟩))
      rw [if_neg hD2, show (2 * (D : Int)).toNat = 2 * D from by omega] at hhn
      obtain ⟨H, hH⟩ : ∃ H, H = m / 2 ^ (2 * D) := ⟨_, rfl⟩
      rw [← hH] at hhn d2 d3
      have hH1 : Hd w1 A1 c1 hs H NN := Hd.of hhn hres1 (by omega) hmN
      have S1 := Lib.hid (ih H d3 A1 c1 hs w1 w1.heap.size hH1.rd (Nat.le_refl _) hhn.1 hhn.2.2 hH1.cap (by have := hH1.len; omega))
      have HH := Lib.hid hH
      clear hH R1 L1 T0 hres1
      have hP1 := hP.next (by rw [show w.heap.size = w.heap.size from rfl]; exact hb1)
      go_wp2_with fail
      refine S1.out.mono ?_
      rintro e w2 ⟨zs, A2, c2, s, rfl, hz, hs2, hres2, hb2⟩
      have hs0 : 0 < s := by
        rcases Nat.eq_zero_or_pos s with h0 | h0
        · have := hs2.2
          rw [h0] at this
          omega
        · exact h0
      obtain ⟨x, hx⟩ : ∃ x, x = s * 2 ^ D := ⟨_, rfl⟩
      have hxx : x * x ≤ m := by rw [hx]; exact root_up (by rw [← HH.out]; exact hs2.1)
      have hxm := self_le_sq hxx
      have hx0 : 0 < x := by rw [hx]; exact Nat.mul_pos hs0 (Nat.two_pow_pos _)
      have hZ : Hd w2 A2 c2 zs s NN := Hd.of hz hres2 (by have := self_le_sq hs2.1; omega) hmN
      have U1 := Lib.hid (shiftUp_any A2 c2 zs D (D / 32) (D % 32) w2 w2.heap.size hZ.rd (Nat.le_refl _) hz.1 (by omega) (by omega) (by have := hZ.len; omega))
      rw [hz.2.2, ← hx] at U1
      have hP2 := hP1.next hb2
      clear hx S1
      go_wp2_with fail
      refine U1.out.mono ?_
      rintro e w3 ⟨z3, A3, c3, rfl, hz3, hres3, hb3⟩
      have hX : Hd w3 A3 c3 z3 x NN := Hd.of hz3 hres3 hxm hmN
      have hP3 := hP2.next hb3
      have V1 := Lib.hid (div_any quotient_all A A3 c c3 ps z3 w3 w3.heap.size hP3.rd hX.rd (Nat.le_refl _) hn.1 hz3.1 hP3.cap hX.cap (by omega) (by have := hX.len; omega) (by show _ ≤ _; have := hX.len; have := trimL_length_le z3; omega))
      rw [hn.2.2, hz3.2.2] at V1
      clear U1 hP2
      go_wp2_with fail
      refine V1.out.mono ?_
      rintro e w4 ⟨qs, rs, A4, c4, A5, c5, rfl, hqn, hrn, hresq, hresr, hb4⟩
      have hQ : Hd w4 A4 c4 qs (m / x) NN := Hd.of hqn hresq (Nat.div_le_self _ _) hmN
      have hX4 := hX.next hb4
      have hP4 := hP3.next hb4
      have A1' := Lib.hid (add_any A3 A4 c3 c4 z3 qs w4 w4.heap.size hX4.rd hQ.rd (Nat.le_refl _) hX4.num.1 hQ.num.1 hX4.cap hQ.cap (by have := hX4.len; omega) (by have := hQ.len; omega))
      rw [hX4.num.2.2, hQ.num.2.2] at A1'
      clear V1 hP3 hX hqn hrn hresq hresr
      go_wp2_with fail
      refine A1'.out.mono ?_
      rintro e w5 ⟨z5, A6, c6, rfl, hz5, hres5, hb5⟩
      have hsum : x + m / x ≤ 4294967296 ^ (NN + 1) - 1 := by
        have := Nat.div_le_self m x
        rw [Nat.pow_succ]
        omega
      have hY : Hd w5 A6 c6 z5 (x + m / x) (NN + 1) := Hd.of hz5 hres5 hsum (by have := Nat.pow_pos (n := NN + 1) (show 0 < 4294967296 by omega); omega)
      have hP5 := hP4.next hb5
      have R2 := Lib.hid (right_any A6 c6 z5 1 w5 w5.heap.size hY.rd (Nat.le_refl _) hz5.1 hY.cap (by have := hY.len; omega) (by omega))
      rw [hz5.2.2] at R2
      clear A1' hP4 hX4 hQ
      go_wp2_with fail
      refine R2.out.mono ?_
      rintro e w6 ⟨z6, A7, c7, rfl, hz6, hres6, hb6⟩
      rw [if_neg (by omega), show (1 : Int).toNat = 1 from rfl, Nat.pow_one] at hz6
      have hP6 := hP5.next hb6
      have hN0 := Lib.hid (newton_ge (a := m) hx0)
      obtain ⟨r, hr9⟩ : ∃ r, r = (x + m / x) / 2 := ⟨_, rfl⟩
      rw [← hr9] at hz6 hN0
      have hR : Hd w6 A7 c7 z6 r (NN + 1) := Hd.of hz6 hres6 (m := 4294967296 ^ (NN + 1) - 1) (by omega) (by have := Nat.pow_pos (n := NN + 1) (show 0 < 4294967296 by omega); omega)
      have hbt : Below w.heap.size w w6 := ((((hb1.trans (hb2.mono hb1.size)).trans (hb3.mono (Nat.le_trans hb1.size hb2.size))).trans (hb4.mono (Nat.le_trans hb1.size (Nat.le_trans hb2.size hb3.size)))).trans (hb5.mono (Nat.le_trans hb1.size (Nat.le_trans hb2.size (Nat.le_trans hb3.size hb4.size))))).trans (hb6.mono (Nat.le_trans hb1.size (Nat.le_trans hb2.size (Nat.le_trans hb3.size (Nat.le_trans hb4.size hb5.size)))))
      have hres7 : Res w6 w.heap.size 31 A7 c7 (u32s z6) := hres6.mono (Nat.le_trans hb1.size (Nat.le_trans hb2.size (Nat.le_trans hb3.size (Nat.le_trans hb4.size hb5.size))))
      clear R2 hP5 hY hr9 hres6 hP1 hH1 hZ hb1 hb2 hb3 hb4 hb5 hb6 hsum hxx hxm
      go_wp2_with fail
      go_loopg [6] r (fun K rv wr => ∃ (zr : List Nat) (A7 : Option Addr) (c7 r : Nat), rv = .slice A7 zr.length c7 ∧ Hd wr A7 c7 zr r (NN + 1) ∧ Hd wr A c ps m NN ∧ Hid (m < (r + 1) * (r + 1)) ∧ r ≤ K ∧ Res wr w.heap.size 31 A7 c7 (u32s zr) ∧ Below w.heap.size w wr)
      case atStart => exact ⟨z6, A7, c7, r, rfl, hR, hP6, hN0, Nat.le_refl _, hres7, hbt⟩
      case round =>
        clear hR hP6 hN0 hres7 hbt
        obtain ⟨zr, A7, c7, r, rfl, hR, hP, HN, hK, hres, hbel⟩ := hrel
        have hlr := hR.len
        have htr := trimL_length_le zr
        have M1 := Lib.hid (mul_any A7 A7 c7 c7 zr zr wr wr.heap.size hR.rd hR.rd (Nat.le_refl _) hR.num.1 hR.num.1 hR.cap hR.cap (by omega) (by omega) (by omega))
        rw [hR.num.2.2] at M1
        have hsq : Hid (r * r < 4294967296 ^ (2 * (NN + 1))) := by
          show _ < _
          have h1 : r < 4294967296 ^ (NN + 1) := Nat.lt_of_lt_of_le hR.num.lt (Nat.pow_le_pow_right (by omega) hlr)
          rw [show 2 * (NN + 1) = NN + 1 + (NN + 1) from by omega, Nat.pow_add]
          exact Nat.mul_lt_mul'' h1 h1
        obtain ⟨q, hq⟩ : ∃ q, q = r * r := ⟨_, rfl⟩
        rw [← hq] at M1 hsq
        have Hq := Lib.hid hq
        clear hq
        have C1 : Hid (∀ (zs : List Nat) (A9 : Option Addr) (c9 : Nat) (W : World), Below wr.heap.size wr W → Num 4294967296 zs q → Res W wr.heap.size 31 A9 c9 (u32s zs) → Calls Tryd.prog 36 #[.slice A9 zs.length c9, .slice A ps.length c] W fun e w' => e = .returned (.int .i64 (cmpN q m)) ∧ Dr W w') := fun zs A9 c9 W hW hz hr9 => by
          have hP2 := hP.next hW
          have hZ : Hd W A9 c9 zs q (2 * (NN + 1)) := Hd.of hz hr9 (Nat.le_refl _) hsq.out
          have := cmp_any A9 A c9 c zs ps W W.heap.size hZ.rd hP2.rd hz.1 hn.1 hZ.cap hP2.cap (by have := hZ.len; omega) (by omega)
          rwa [hz.2.2, hn.2.2] at this
        by_cases hgt : m < q
        · have t2 : decide (0 < cmpN q m) = true := by
            unfold cmpN
            rw [if_neg (by omega)]
            split
            · rfl
            · omega
          have O1 : Hid (∀ W : World, Calls Tryd.prog 12 #[.int .u64 1] W fun e w' => ∃ zs A' c', e = .returned (.slice A' zs.length c') ∧ Num 4294967296 zs 1 ∧ Res w' W.heap.size 31 A' c' (u32s zs) ∧ Below W.heap.size W w') := fun W => of_any 1 (by omega) W
          obtain ⟨f1, f2⟩ := root_down HN.out (by rw [← Hq.out]; exact hgt)
          have F2 := Lib.hid f2
          clear f2
          go_wp2_with (first
            | (go_at_call 34; (with_reducible refine M1.out.mono ?_); rintro e w7 ⟨zs, A9, c9, rfl, hz, hres9, hb7⟩)
            | (go_at_call 36; (with_reducible refine (C1.out _ _ _ _ hb7 hz hres9).mono ?_); rintro e w8 ⟨rfl, hdr⟩; have hb8 : Below wr.heap.size wr w8 := hb7.trans ((hdr.below w7.heap.size).mono hb7.size); have hR8 := hR.next hb8)
            | simp only []
            | (go_at_call 12; (with_reducible refine (O1.out _).mono ?_); rintro e w9 ⟨os, A10, c10, rfl, ho, hreso, hb9⟩; have hR9 := hR8.next hb9; have hO : Hd w9 A10 c10 os 1 1 := Hd.of ho hreso (Nat.le_refl _) (by decide); have S2 := Lib.hid (sub_any A7 A10 c7 c10 zr os w9 w9.heap.size hR9.rd hO.rd (Nat.le_refl _) hR9.num.1 ho.1 hR9.cap hO.cap (by omega) (by have := hO.len; omega)); rw [hR9.num.2.2, ho.2.2] at S2)
            | (go_at_call 35; (with_reducible refine S2.out.mono ?_); rintro e w10 ⟨zd, A11, c11, rfl, hzd, hresd, hb10⟩))
          have hb9t := hb8.trans (hb9.mono hb8.size)
          have hbz := hb9t.trans (hb10.mono hb9t.size)
          have hlt9 : r < 4294967296 ^ (NN + 1) := Nat.lt_of_lt_of_le hR.num.lt (Nat.pow_le_pow_right (by omega) hlr)
          go_roundg (r - 1)
          case measure => omega
          case rel => exact ⟨zd, A11, c11, r - 1, rfl, Hd.of hzd hresd (by omega) hlt9, hP.next hbz, F2.out, Nat.le_refl _, hresd.mono (Nat.le_trans hbel.size hb9t.size), hbel.trans (hbz.mono hbel.size)⟩
        · have t2 : decide (0 < cmpN q m) = false := by
            unfold cmpN
            split
            · rfl
            · first
              | (split <;> first | rfl | (exfalso; omega))
              | rfl
          go_wp2_with (first
            | (go_at_call 34; (with_reducible refine M1.out.mono ?_); rintro e w7 ⟨zs, A9, c9, rfl, hz, hres9, hb7⟩)
            | (go_at_call 36; (with_reducible refine (C1.out _ _ _ _ hb7 hz hres9).mono ?_); rintro e w8 ⟨rfl, hdr⟩)
            | simp only [])
          go_ret
          have hb8 : Below wr.heap.size wr w8 := hb7.trans ((hdr.below w7.heap.size).mono hb7.size)
          exact ⟨zr, A7, c7, r, rfl, hR.num, ⟨by rw [← Hq.out]; omega, HN.out⟩, hres.below hb8 (Nat.le_refl _), hbel.trans (hb8.mono hbel.size)⟩
end
section
open Go.RowKit

/-- A number that is held, and what it is below. -/
structure Hv (w : World) (A : Option Addr) (c : Nat) (xs : List Nat) (n K : Nat) : Prop where
  dig : Dig 4294967296 xs
  val_ : val 4294967296 xs = n
  rd : Rd w w.heap.size A (u32s xs)
  cap : xs.length ≤ c
  len : xs.length ≤ K
section
variable {w w' : World} {A A2 : Option Addr} {c c2 n k K J : Nat} {xs ys : List Nat}
theorem Hv.next (h : Hv w A c xs n K) (hb : Below w.heap.size w w') : Hv w' A c xs n K := ⟨h.dig, h.val_, (h.rd.below hb).mono hb.size, h.cap, h.len⟩
theorem Hv.lt (h : Hv w A c xs n K) : n < 4294967296 ^ K := by
  rw [← h.val_]
  exact Nat.lt_of_lt_of_le (val_lt _ _ h.dig) (Nat.pow_le_pow_right (by omega) h.len)
/-- What an operation answers. -/
def HvOut (w w' : World) (n K : Nat) (e : Ending) : Prop := ∃ zs A' c', e = .returned (.slice A' zs.length c') ∧ Hv w' A' c' zs n K ∧ Below w.heap.size w w'
theorem Hv.of {B : Nat} (h : Num 4294967296 xs n) (hr : Res w B 31 A c (u32s xs)) (hm : n < 4294967296 ^ K) : Hv w A c xs n K :=
  ⟨h.1, h.2.2, hr.rd, by have := hr.1; rwa [u32s_length] at this, num32_len h (Nat.le_refl _) hm⟩
theorem sum_lt_pow9 {b i j : Nat} (hb : 2 ≤ b) (hn : n < b ^ i) (hk : k < b ^ j) : n + k < b ^ (max i j + 1) := by
  have h1 : b ^ i ≤ b ^ max i j := Nat.pow_le_pow_right (by omega) (by omega)
  have h2 : b ^ j ≤ b ^ max i j := Nat.pow_le_pow_right (by omega) (by omega)
  have h3 : b ^ max i j * 2 ≤ b ^ max i j * b := Nat.mul_le_mul_left _ hb
  rw [Nat.pow_succ]
  omega
theorem prod_lt_pow9 {b i j : Nat} (hn : n < b ^ i) (hk : k < b ^ j) : n * k < b ^ (i + j) := by
  rw [Nat.pow_add]
  exact Nat.mul_lt_mul'' hn hk
theorem Hv.add (h : Hv w A c xs n K) (h2 : Hv w A2 c2 ys k J) (hK : K ≤ 67108864) (hJ : J ≤ 67108864) :
    Calls Tryd.prog 33 #[.slice A xs.length c, .slice A2 ys.length c2] w fun e w' => HvOut w w' (n + k) (max K J + 1) e := by
  have hl1 := h.len
  have hl2 := h2.len
  have h9 := add_any A A2 c c2 xs ys w w.heap.size h.rd h2.rd (Nat.le_refl _) h.dig h2.dig h.cap h2.cap (by omega) (by omega)
  rw [h.val_, h2.val_] at h9
  refine h9.mono ?_
  rintro e w' ⟨zs, A', c', rfl, hz, hr, hb⟩
  exact ⟨zs, A', c', rfl, Hv.of hz hr (sum_lt_pow9 (by omega) h.lt h2.lt), hb⟩
theorem Hv.mul (h : Hv w A c xs n K) (h2 : Hv w A2 c2 ys k J) (hK : K ≤ 67108864) (hJ : J ≤ 67108864) :
    Calls Tryd.prog 34 #[.slice A xs.length c, .slice A2 ys.length c2] w fun e w' => HvOut w w' (n * k) (K + J) e := by
  have hl1 := h.len
  have hl2 := h2.len
  have t1 := trimL_length_le xs
  have t2 := trimL_length_le ys
  have h9 := mul_any A A2 c c2 xs ys w w.heap.size h.rd h2.rd (Nat.le_refl _) h.dig h2.dig h.cap h2.cap (by omega) (by omega) (by omega)
  rw [h.val_, h2.val_] at h9
  refine h9.mono ?_
  rintro e w' ⟨zs, A', c', rfl, hz, hr, hb⟩
  exact ⟨zs, A', c', rfl, Hv.of hz hr (prod_lt_pow9 h.lt h2.lt), hb⟩
theorem Hv.cmp (h : Hv w A c xs n K) (h2 : Hv w A2 c2 ys k J) (hK : K ≤ 67108864) (hJ : J ≤ 67108864) :
    Calls Tryd.prog 36 #[.slice A xs.length c, .slice A2 ys.length c2] w fun e w' => e = .returned (.int .i64 (cmpN n k)) ∧ Below w.heap.size w w' := by
  have hl1 := h.len
  have hl2 := h2.len
  have h9 := cmp_any A A2 c c2 xs ys w w.heap.size h.rd h2.rd h.dig h2.dig h.cap h2.cap (by omega) (by omega)
  rw [h.val_, h2.val_] at h9
  refine h9.mono ?_
  rintro e w' ⟨rfl, hdr⟩
  exact ⟨rfl, hdr.below _⟩
theorem Hv.equal (h : Hv w A c xs n K) (h2 : Hv w A2 c2 ys k J) (hK : K ≤ 67108864) (hJ : J ≤ 67108864) (e : n = k) :
    Calls Tryd.prog 32 #[.slice A xs.length c, .slice A2 ys.length c2] w fun e w' => e = .returned (.bool true) ∧ Below w.heap.size w w' := by
  have HC := Lib.hid (h.cmp h2 hK hJ)
  have hc : cmpN n k = 0 := by unfold cmpN; rw [if_neg (by omega), if_neg (by omega)]
  rw [hc] at HC
  clear h h2 hc
  go_enter Tryd.func32, Tryd.ntmps32
  go_wp2_with (go_at_call 36; (with_reducible refine HC.out.mono ?_); rintro e w1 ⟨rfl, hb⟩)
  go_ret
  exact ⟨rfl, hb⟩
theorem Hv.gcd (h : Hv w A c xs n K) (h2 : Hv w A2 c2 ys k J) (hK : K ≤ 67108864) (hJ : J ≤ 67108864) (hT : Tab64 w) (hTB : 1 < w.heap.size) :
    Calls Tryd.prog 24 #[.slice A xs.length c, .slice A2 ys.length c2] w fun e w' => HvOut w w' (Nat.gcd n k) (max K J) e := by
  have hl1 := h.len
  have hl2 := h2.len
  have h9 := gcd_any A A2 c c2 xs ys w w.heap.size h.rd h2.rd (Nat.le_refl _) h.dig h2.dig h.cap h2.cap (by omega) (by omega) hT hTB
  rw [h.val_, h2.val_] at h9
  refine h9.mono ?_
  rintro e w' ⟨zs, A', c', rfl, hz, hr, hb⟩
  refine ⟨zs, A', c', rfl, Hv.of hz hr ?_, hb⟩
  have p1 : 4294967296 ^ K ≤ 4294967296 ^ max K J := Nat.pow_le_pow_right (by omega) (by omega)
  have p2 : 4294967296 ^ J ≤ 4294967296 ^ max K J := Nat.pow_le_pow_right (by omega) (by omega)
  have q1 := h.lt
  have q2 := h2.lt
  rcases Nat.eq_zero_or_pos n with h0 | h0
  · rw [h0, Nat.gcd_zero_left]; omega
  · exact Nat.lt_of_le_of_lt (Nat.gcd_le_left _ h0) (by omega)
theorem Hv.sqrt (h : Hv w A c xs n K) (hK : K ≤ 67108864) :
    Calls Tryd.prog 28 #[.slice A xs.length c] w fun e w' => ∃ s, IsRoot n s ∧ HvOut w w' s K e := by
  have hl1 := h.len
  refine (sqrt_any n A c xs w w.heap.size h.rd (Nat.le_refl _) h.dig h.val_ h.cap (by omega)).mono ?_
  rintro e w' ⟨zs, A', c', s, rfl, hz, hs, hr, hb⟩
  exact ⟨s, hs, zs, A', c', rfl, Hv.of hz hr (Nat.lt_of_le_of_lt (self_le_sq hs.1) h.lt), hb⟩
theorem Hv.sub (h : Hv w A c xs n K) (h2 : Hv w A2 c2 ys k J) (hK : K ≤ 67108864) (hJ : J ≤ 67108864) (hle : k ≤ n) :
    Calls Tryd.prog 35 #[.slice A xs.length c, .slice A2 ys.length c2] w fun e w' => ∃ zs A' c', e = .returned (.tuple #[.slice A' zs.length c', .int .i64 0]) ∧ Hv w' A' c' zs (n - k) K ∧ Below w.heap.size w w' := by
  have hl1 := h.len
  have hl2 := h2.len
  have h9 := sub_any A A2 c c2 xs ys w w.heap.size h.rd h2.rd (Nat.le_refl _) h.dig h2.dig h.cap h2.cap (by omega) (by omega)
  rw [h.val_, h2.val_] at h9
  refine h9.mono ?_
  rintro e w' ⟨zs, A', c', rfl, hz, hr, hb⟩
  exact ⟨zs, A', c', by rw [if_neg (by omega)], Hv.of hz hr (Nat.lt_of_le_of_lt (Nat.sub_le _ _) h.lt), hb⟩
theorem Hv.div (h : Hv w A c xs n K) (h2 : Hv w A2 c2 ys k J) (hK : K ≤ 67108864) (hJ : J ≤ 67108864) :
    Calls Tryd.prog 23 #[.slice A xs.length c, .slice A2 ys.length c2] w fun e w' => ∃ qs rs A1 c1 A3 c3, e = .returned (.tuple #[.slice A1 qs.length c1, .slice A3 rs.length c3, .int .i64 (if k = 0 then 5 else 0)]) ∧ Hv w' A1 c1 qs (n / k) K ∧ Hv w' A3 c3 rs (if k = 0 then 0 else n % k) K ∧ Below w.heap.size w w' := by
  have hl1 := h.len
  have hl2 := h2.len
  have t2 := trimL_length_le ys
  have h9 := div_any quotient_all A A2 c c2 xs ys w w.heap.size h.rd h2.rd (Nat.le_refl _) h.dig h2.dig h.cap h2.cap (by omega) (by omega) (by show _ ≤ _; omega)
  rw [h.val_, h2.val_] at h9
  refine h9.mono ?_
  rintro e w' ⟨qs, rs, A1, c1, A3, c3, rfl, hq, hr, hrq, hrr, hb⟩
  refine ⟨qs, rs, A1, c1, A3, c3, rfl, Hv.of hq hrq (Nat.lt_of_le_of_lt (Nat.div_le_self _ _) h.lt), Hv.of hr hrr ?_, hb⟩
  split
  · exact Nat.pow_pos (by omega)
  · exact Nat.lt_of_le_of_lt (Nat.mod_le _ _) h.lt
theorem Hv.nlen (h : Hv w A c xs n K) (hK : K ≤ 67108864) :
    Calls Tryd.prog 14 #[.slice A xs.length c] w fun e w' => e = .returned (.int .i64 (bitsOf n : Nat)) ∧ w = w' := by
  have hl1 := h.len
  have h9 := len_any A c xs w w.heap.size h.rd h.dig h.cap (by omega)
  rwa [h.val_] at h9
end
end
end Go.Proofs.YtogkfpbapjjgfaaDoor
