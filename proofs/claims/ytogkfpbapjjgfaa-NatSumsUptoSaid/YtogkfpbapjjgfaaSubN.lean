/- The contracts of nat.Sub and shortMul. Conditions: fewer limbs than any slice can have. -/
import Derived.Test.YtogkfpbapjjgfaaAddN
import Derived.Test.YtogkfpbapjjgfaaRefSub
namespace Go.Proofs.Ytogkfpbapjjgfaa
open Go.RowKit

/-- What Sub answers. -/
def SubOut (w w' : World) (m n : Nat) (e : Ending) : Prop :=
  ∃ zs A' c', e = .returned (.tuple #[.slice A' zs.length c', .int .i64 (if m < n then 10 else 0)]) ∧ Num 4294967296 zs (m - n) ∧ Res w' w.heap.size 34 A' c' (u32s zs) ∧ Below w.heap.size w w'

set_option maxHeartbeats 1600000 in
theorem sub_any (A A2 : Option Addr) (c c2 : Nat) (xs ys : List Nat) (w : World) (B : Nat) (hr : Rd w B A (u32s xs)) (hr2 : Rd w B A2 (u32s ys)) (hB : B ≤ w.heap.size) (hd : Dig 4294967296 xs) (hd2 : Dig 4294967296 ys) (hc : xs.length ≤ c) (hc2 : ys.length ≤ c2) (hm : xs.length ≤ 70368744170000) (hm2 : ys.length ≤ 70368744170000) :
    Calls Try.prog 9 #[.slice A xs.length c, .slice A2 ys.length c2] w fun e w' => SubOut w w' (val 4294967296 xs) (val 4294967296 ys) e := by
  have hl1 := trimL_length_le xs
  have hl2 := trimL_length_le ys
  obtain ⟨m, hmv⟩ : ∃ m, m = val 4294967296 xs := ⟨_, rfl⟩
  obtain ⟨n, hnv⟩ : ∃ n, n = val 4294967296 ys := ⟨_, rfl⟩
  have hn1 := Num.of_trim hd
  have hn2 := Num.of_trim hd2
  rw [← hmv] at hn1
  rw [← hnv] at hn2
  rw [← hmv, ← hnv]
  have hrt : Rd w B A (u32s (trimL xs)) := by rw [u32s_trim]; exact hr.take _
  have hrt2 : Rd w B A2 (u32s (trimL ys)) := by rw [u32s_trim]; exact hr2.take _
  obtain ⟨us, hps⟩ : ∃ us, us = trimL xs := ⟨_, rfl⟩
  obtain ⟨vs, hqs⟩ : ∃ vs, vs = trimL ys := ⟨_, rfl⟩
  rw [← hps] at hn1 hrt hl1
  rw [← hqs] at hn2 hrt2 hl2
  have Hps := Lib.hid hps
  have Hqs := Lib.hid hqs
  have Hm : Hid (val 4294967296 us = m) := hn1.2.2
  have Hn : Hid (val 4294967296 vs = n) := hn2.2.2
  have hdu := hn1.1
  have hdv := hn2.1
  have hm' : xs.length ≤ 281474976710656 := by omega
  have hm2' : ys.length ≤ 281474976710656 := by omega
  have hub : us.length ≤ 281474976710656 := by omega
  have hvb : vs.length ≤ 281474976710656 := by omega
  have huc : us.length ≤ c := by omega
  have hvc : vs.length ≤ c2 := by omega
  have hum : us.length ≤ 70368744177664 := by omega
  clear hps hqs hmv hnv
  rcases Nat.lt_or_ge m n with hlt | hge
  · have e1 : cmpN m n = -1 := by simp [cmpN, hlt]
    have He1 := Lib.hid e1
    have Hlt := Lib.hid hlt
    clear e1 hn1 hn2 hlt
    go_enter Try.func9, Try.ntmps9
    go_wp2_with (first
      | (go_at_call 27; (with_reducible refine (trim_any A c xs _ B hr hc hm').mono ?_); rintro e w' ⟨rfl, rfl⟩; rw [← Hps.out])
      | (go_at_call 27; (with_reducible refine (trim_any A2 c2 ys _ B hr2 hc2 hm2').mono ?_); rintro e w' ⟨rfl, rfl⟩; rw [← Hqs.out])
      | (go_at_call 12; (with_reducible refine (cmp_any A A2 c c2 us vs _ B hrt hrt2 hdu hdv huc hvc hub hvb).mono ?_); rintro e w2 ⟨rfl, nd, rfl⟩; rw [Hm.out, Hn.out, He1.out]))
    go_ret2
    have hlt := Hlt.out
    refine ⟨[], none, 0, by rw [if_pos hlt]; rfl, ?_, Res.none_, (Dr.refl w).step nd |>.below _⟩
    rw [show m - n = 0 from by omega]; exact Num.zero_ _
  · obtain ⟨cv, hcv⟩ : ∃ cv, cv = cmpN m n := ⟨_, rfl⟩
    have hcv0 : decide (cv < 0) = false := by
      rw [hcv]; unfold cmpN
      rw [if_neg (by omega)]
      split <;> decide
    have Hcv := Lib.hid hcv
    have hle : val 4294967296 vs ≤ val 4294967296 us := by rw [Hm.out, Hn.out]; exact hge
    have hll : vs.length ≤ us.length := by
      rcases Nat.lt_or_ge us.length vs.length with h | h
      · have := val_lt_len (by omega) hn1 hn2 h; omega
      · exact h
    have Hle := Lib.hid hle
    have Hge := Lib.hid hge
    clear hcv hle hge hn1 hn2
    have hmk := fun W => mk32 us.length hum W
    go_enter Try.func9, Try.ntmps9
    go_wp2_with (first
      | (go_at_call 27; (with_reducible refine (trim_any A c xs _ B hr hc hm').mono ?_); rintro e w' ⟨rfl, rfl⟩; rw [← Hps.out])
      | (go_at_call 27; (with_reducible refine (trim_any A2 c2 ys _ B hr2 hc2 hm2').mono ?_); rintro e w' ⟨rfl, rfl⟩; rw [← Hqs.out])
      | (go_at_call 12; (with_reducible refine (cmp_any A A2 c c2 us vs _ B hrt hrt2 hdu hdv huc hvc hub hvb).mono ?_); rintro e w2 ⟨rfl, nd, rfl⟩; rw [Hm.out, Hn.out, ← Hcv.out])
      | (go_at_call 29; (with_reducible refine (subtracter_any _).mono ?_); rintro e w1 ⟨rfl, hbc, hsz, hbel⟩))
    have hbc : Blk w1 (w.heap.size + 1) 44 [.int .u64 ((0 : Nat) : Int)] := by rw [szA] at hbc; exact hbc
    have hblk0 : Blk w1 w.heap.size 34 (u32s (List.replicate us.length 0)) := by
      have h0 : Blk ((w.drewN nd).alloc (.cells (Array.replicate us.length (Value.int .u32 0)) 34)) w.heap.size 34 (u32s (List.replicate us.length 0)) := Blk.new_ (w := w.drewN nd) (by simp [u32s])
      exact h0.below hbel (by rw [szA]; exact Nat.lt_succ_self _)
    have hbel1 : Below w.heap.size w w1 := ((Dr.refl w).step nd |>.below _).trans (((Below.refl _ _).alloc (Nat.le_refl _) _).trans (hbel.mono (by rw [szA]; exact Nat.le_succ _)))
    clear hbel hsz hr hr2
    go_loopw [8, 9, 25] (fun _ _ i wr => ∃ (k cc : Nat) (zs : List Nat), k ≤ vs.length ∧ i = .int .i64 k ∧ Blk wr w.heap.size 34 (u32s zs) ∧ Blk wr (w.heap.size + 1) 44 [.int .u64 (cc : Int)] ∧ Subbed us vs k zs cc ∧ Below w.heap.size w wr) (fun _ _ i _ => vs.length - (intOf i).toNat)
    case atStart => exact ⟨0, 0, _, by omega, rfl, hblk0, hbc, Subbed.start _ _, hbel1⟩
    case round =>
      clear hblk0 hbc hbel1
      obtain ⟨k, cc, zs, hk, rfl, hblk, hbc, hsu, hbel⟩ := hrel
      have hcc := hsu.2.1
      by_cases hlt : k < vs.length
      · have hku : k < us.length := by omega
        obtain ⟨b, off, rfl, hb, hx⟩ := hrt.at32 hku
        obtain ⟨b2, off2, rfl, hb2, hy⟩ := hrt2.at32 hlt
        have hx := (hbel.cell (p := ⟨b, off + k, none⟩) (show b < _ by omega)).trans hx
        have hy := (hbel.cell (p := ⟨b2, off2 + k, none⟩) (show b2 < _ by omega)).trans hy
        have hxd := hdu.at_ k hku
        have hyd := hdv.at_ k hlt
        have hz1 : k < zs.length := by rw [hsu.2.2.2.2]; exact hku
        go_wp2_with (go_at_call 48; (with_reducible refine (subtracter1_any _ _ cc _ _ hxd hyd hcc hbc).mono ?_); rintro e w2 ⟨rfl, hg2, hch⟩; have hq2 := hblk.ch hch (by omega); have hc2 := (hq2.cell k).trans (u32s_at hz1); have hf2 := hq2.frozen k)
        go_roundw
        case rel =>
          have h9 := hsu.step hz1 hdu hdv
          rw [at0_in hku, at0_in hlt] at h9
          refine ⟨k + 1, 1 - (4294967296 + us[k] - vs[k] - cc) / 4294967296, zs.set k ((4294967296 + us[k] - vs[k] - cc) % 4294967296), by omega, by go_num, ?_, hg2.far (p := ⟨w.heap.size, k, none⟩) (by simp) _, h9, (hbel.trans (hch.below (by omega))).setCell (p := ⟨w.heap.size, k, none⟩) (Nat.le_refl _) _⟩
          have hb2 := hq2.set_ k (Value.int IntKind.u32 (((4294967296 + us[k] - vs[k] - cc) % 4294967296 : Nat) : Int))
          rw [u32s_set] at hb2
          exact hb2
        case measure => simp [intOf]; omega
      · obtain rfl : k = vs.length := by omega
        go_wp2_with fail
        go_loopw [10] (fun i wr => ∃ (k cc : Nat) (zs : List Nat), vs.length ≤ k ∧ k ≤ us.length ∧ i = .int .i64 k ∧ Blk wr w.heap.size 34 (u32s zs) ∧ Blk wr (w.heap.size + 1) 44 [.int .u64 (cc : Int)] ∧ Subbed us vs k zs cc ∧ Below w.heap.size w wr) (fun i _ => us.length - (intOf i).toNat)
        case atStart => exact ⟨vs.length, cc, zs, by omega, hll, rfl, hblk, hbc, hsu, hbel⟩
        case round =>
          clear hblk hbc hsu hbel hcc
          obtain ⟨k, cc, zs, hkv, hk, rfl, hblk, hbc, hsu, hbel⟩ := hrel
          have hcc := hsu.2.1
          by_cases hlt : k < us.length
          · obtain ⟨b, off, rfl, hb, hx⟩ := hrt.at32 hlt
            have hx := (hbel.cell (p := ⟨b, off + k, none⟩) (show b < _ by omega)).trans hx
            have hxd := hdu.at_ k hlt
            have hz1 : k < zs.length := by rw [hsu.2.2.2.2]; exact hlt
            go_wp2_with fail
            refine (subtracter1_any us[k] 0 cc _ _ hxd (by omega) hcc hbc).mono ?_
            rintro e w2 ⟨rfl, hg2, hch⟩
            have hq2 := hblk.ch hch (by omega)
            have hc2 := (hq2.cell k).trans (u32s_at hz1)
            have hf2 := hq2.frozen k
            go_wp2_with fail
            go_roundw
            case rel =>
              have h9 := hsu.step hz1 hdu hdv
              rw [at0_in hlt, at0_out hkv] at h9
              refine ⟨k + 1, 1 - (4294967296 + us[k] - 0 - cc) / 4294967296, zs.set k ((4294967296 + us[k] - 0 - cc) % 4294967296), by omega, by omega, by go_num, ?_, hg2.far (p := ⟨w.heap.size, k, none⟩) (by simp) _, h9, (hbel.trans (hch.below (by omega))).setCell (p := ⟨w.heap.size, k, none⟩) (Nat.le_refl _) _⟩
              have hb2 := hq2.set_ k (Value.int IntKind.u32 (((4294967296 + us[k] - 0 - cc) % 4294967296 : Nat) : Int))
              rw [u32s_set] at hb2
              exact hb2
            case measure => simp [intOf]; omega
          · obtain rfl : k = us.length := by omega
            have hl2 : Hid (zs.length = us.length) := hsu.2.2.2.2
            have hm2 : zs.length ≤ 281474976710656 := by have := hl2.out; omega
            have Hlv : Hid (val 4294967296 zs = m - n) := by
              have := hsu.last hdu hdv Hle.out
              rw [Hm.out, Hn.out] at this
              exact this
            have hrd := (Res.of_blk0 hblk (Nat.le_refl _) (by rw [u32s_length]; omega)).rd
            go_wp2_with (go_at_call 27; rw [← hl2.out]; refine (trim_any _ _ zs _ _ hrd (Nat.le_refl _) hm2).mono ?_; rintro e w3 ⟨rfl, rfl⟩)
            go_ret2
            have hge := Hge.out
            refine ⟨trimL zs, _, _, by rw [if_neg (by omega)]; rfl, ?_, ?_, hbel⟩
            · have hz := Num.of_trim hsu.1
              rw [Hlv.out] at hz
              exact hz
            · have h3 := (Res.of_blk0 hblk (Nat.le_refl _) (by rw [u32s_length]; omega)).take (trimL zs).length
              rw [← u32s_trim, u32s_length] at h3
              exact h3

theorem mul_T {b : Nat} {us : List Nat} {k v : Nat} (hu : k < us.length) : val b (us.take k) * v + b ^ k * (us[k] * v) = val b (us.take (k + 1)) * v := by
  rw [val_take_succ b us k hu, Nat.add_mul, Nat.mul_assoc]
theorem carry_mul {c x v : Nat} {B : Nat} (hc : c < B) (hx : x < B) (hv : v < B) : (c + x * v) / B < B := by
  rw [Nat.div_lt_iff_lt_mul (by omega)]
  have h1 : x * v ≤ (B - 1) * (B - 1) := Nat.mul_le_mul (by omega) (by omega)
  obtain ⟨q, rfl⟩ : ∃ q, B = q + 1 := ⟨B - 1, by omega⟩
  have h2 : (q + 1) * (q + 1) = q * q + q + q + 1 := by rw [Nat.add_mul, Nat.mul_add]; omega
  rw [h2]
  simp only [Nat.add_sub_cancel] at h1
  omega

set_option maxHeartbeats 1600000 in
theorem shortMul_any (A : Option Addr) (c : Nat) (us : List Nat) (v : Nat) (w : World) (B : Nat) (hru : Rd w B A (u32s us)) (hB : B ≤ w.heap.size) (hdu : Dig 4294967296 us) (hv : v < 4294967296) (hm : us.length ≤ 70368744170000) :
    Calls Try.prog 33 #[.slice A us.length c, .int .u32 (v : Int)] w fun e w' => ∃ zs A' c', e = .returned (.slice A' zs.length c') ∧ Num 4294967296 zs (val 4294967296 us * v) ∧ Res w' w.heap.size 34 A' c' (u32s zs) ∧ Below w.heap.size w w' := by
  have hmk := fun W => mk32s us.length (by omega) W
  go_enter Try.func33, Try.ntmps33
  go_wp2_with (go_at_call 50; (with_reducible refine (scaler_any _ _).mono ?_); rintro e w1 ⟨rfl, hbn, hbc, hsz, hbel⟩)
  rw [szA] at hbn hbc hsz hbel
  have hblk0 : Blk w1 w.heap.size 34 (u32s (List.replicate (us.length + 1) 0)) := by
    have h0 : Blk (w.alloc (.cells (Array.replicate (us.length + 1) (Value.int .u32 0)) 34)) w.heap.size 34 (u32s (List.replicate (us.length + 1) 0)) := Blk.new_ (by simp [u32s])
    exact h0.below hbel (by omega)
  have hbel1 : Below w.heap.size w w1 := ((Below.refl _ _).alloc (Nat.le_refl _) _).trans (hbel.mono (by omega))
  clear hbel hsz
  obtain ⟨os, hos⟩ : ∃ os, os = List.replicate (us.length + 1) 0 := ⟨_, rfl⟩
  have hol : os.length = us.length + 1 := by rw [hos]; simp
  have ho0 : Hid (∀ k (h : k < os.length), os[k] = 0) := by subst hos; exact fun k h => by simp
  have hov : Hid (val 4294967296 os = 0) := by rw [hos]; exact val_zeros _ _
  have hod : Dig 4294967296 os := by rw [hos]; exact Dig.zeros_ (by omega) _
  rw [← hos] at hblk0
  have Hol := Lib.hid hol
  clear hos hol
  go_loopw [7, 8, 17] (fun _ _ i wr => ∃ (k cc : Nat) (zs : List Nat), k ≤ us.length ∧ i = .int .i64 k ∧ cc < 4294967296 ∧ Blk wr w.heap.size 34 (u32s zs) ∧ Blk wr (w.heap.size + 1) 34 [.int .u32 (v : Int)] ∧ Blk wr (w.heap.size + 1 + 1) 44 [.int .u64 (cc : Int)] ∧ Acc 4294967296 os (val 4294967296 (us.take k) * v) k zs cc ∧ Below w.heap.size w wr) (fun _ _ i _ => us.length - (intOf i).toNat)
  case atStart => exact ⟨0, 0, os, by omega, rfl, by omega, hblk0, hbn, hbc, by simpa [val] using Acc.start hod, hbel1⟩
  case round =>
    clear hblk0 hbc hbn hbel1
    obtain ⟨k, cc, zs, hk, rfl, hcc, hblk, hbn, hbc, hacc, hbel⟩ := hrel
    by_cases hlt : k < us.length
    · obtain ⟨b, off, rfl, hb, hx⟩ := hru.at32 hlt
      have hx := (hbel.cell (p := ⟨b, off + k, none⟩) (show b < _ by omega)).trans hx
      have hxd := hdu.at_ k hlt
      have hz1 : k < zs.length := by have := hacc.2.1.trans Hol.out; omega
      have hko : k < os.length := by have := Hol.out; omega
      go_wp2_with (go_at_call 63; (with_reducible refine (scaler1_any _ v cc _ _ _ hxd hv hcc hbc hbn (by omega)).mono ?_); rintro e w2 ⟨rfl, hg2, hch⟩; have hq2 := hblk.ch hch (by omega); have hc2 := (hq2.cell k).trans (u32s_at hz1); have hf2 := hq2.frozen k)
      go_roundw
      case rel =>
        have h9 := hacc.step (d := us[k] * v) (r := (cc + us[k] * v) % 4294967296) (q := (cc + us[k] * v) / 4294967296) hko (by omega) (by rw [ho0.out k hko]; omega)
        rw [mul_T hlt] at h9
        refine ⟨k + 1, (cc + us[k] * v) / 4294967296, zs.set k ((cc + us[k] * v) % 4294967296), by omega, by go_num, carry_mul hcc hxd hv, ?_, (hbn.ch hch (by omega)).far (p := ⟨w.heap.size, k, none⟩) (by simp) _, hg2.far (p := ⟨w.heap.size, k, none⟩) (by simp; omega) _, h9, (hbel.trans (hch.below (by omega))).setCell (p := ⟨w.heap.size, k, none⟩) (Nat.le_refl _) _⟩
        have hb2 := hq2.set_ k (Value.int IntKind.u32 (((cc + us[k] * v) % 4294967296 : Nat) : Int))
        rw [u32s_set] at hb2
        exact hb2
      case measure => simp [intOf]; omega
    · obtain rfl : k = us.length := by omega
      have hz1 : us.length < zs.length := by have := hacc.2.1.trans Hol.out; omega
      have hko : us.length < os.length := by have := Hol.out; omega
      go_wp2_with fail
      refine (scaler1_any 0 v cc _ _ _ (by omega) hv hcc hbc hbn (by omega)).mono ?_
      rw [show cc + 0 * v = cc from by omega]
      rintro e w2 ⟨rfl, hg2, hch⟩
      have hq2 := hblk.ch hch (by omega)
      have hc2 := (hq2.cell us.length).trans (u32s_at hz1)
      have hf2 := hq2.frozen us.length
      have hb2 : Blk (w2.setCell ⟨w.heap.size, us.length, none⟩ (.int .u32 ((cc % 4294967296 : Nat) : Int))) w.heap.size 34 (u32s (zs.set us.length (cc % 4294967296))) := by
        have := hq2.set_ us.length (Value.int IntKind.u32 ((cc % 4294967296 : Nat) : Int))
        rwa [u32s_set] at this
      have h9 := hacc.step (d := 0) (r := cc % 4294967296) (q := cc / 4294967296) hko (by omega) (by rw [ho0.out _ hko]; omega)
      obtain ⟨zs2, hzs2⟩ : ∃ zs2, zs2 = zs.set us.length (cc % 4294967296) := ⟨_, rfl⟩
      rw [← hzs2] at hb2 h9
      have hl2 : Hid (zs2.length = us.length + 1) := h9.2.1.trans Hol.out
      have hm2 : zs2.length ≤ 281474976710656 := by have := hl2.out; omega
      have Hlv : Hid (val 4294967296 zs2 = val 4294967296 us * v) := by
        have := h9.done (by omega)
        rw [hov.out, List.take_length, Nat.mul_zero, Nat.add_zero, Nat.zero_add] at this
        exact this
      have ld := h9.1
      have hbel3 := (hbel.trans (hch.below (B := w.heap.size) (by omega))).setCell (p := ⟨w.heap.size, us.length, none⟩) (Nat.le_refl _) (.int .u32 ((cc % 4294967296 : Nat) : Int))
      clear hzs2 h9
      have hrd := (Res.of_blk0 hb2 (Nat.le_refl _) (by rw [u32s_length]; omega)).rd
      go_wp2_with (go_at_call 27; rw [← hl2.out]; refine (trim_any _ _ zs2 _ _ hrd (Nat.le_refl _) hm2).mono ?_; rintro e w3 ⟨rfl, rfl⟩)
      go_ret
      refine ⟨trimL zs2, _, _, rfl, ?_, ?_, hbel3⟩
      · have hz := Num.of_trim ld
        rw [Hlv.out] at hz
        exact hz
      · have h3 := (Res.of_blk0 hb2 (Nat.le_refl _) (by rw [u32s_length]; omega)).take (trimL zs2).length
        rw [← u32s_trim, u32s_length] at h3
        exact h3
end Go.Proofs.Ytogkfpbapjjgfaa
