/- The contracts of nat.Sub and shortMul. The contract of nat.Mul. Plain numbers and blocks for shifts: a carry and a limb, the. The contract of shiftWords. The contract of unshiftWords. -/
import Derived.Test.YtcjgilagldbjnaaGreatDoorPkBb15
import Derived.Test.YtcjgilagldbjnaaGreatDoorPkBb19
import Derived.Test.YtcjgilagldbjnaaGreatDoorPkBb20
import Derived.Test.YtcjgilagldbjnaaGreatDoorPkBb17
import Derived.Test.YtcjgilagldbjnaaGreatDoorPkBb18
namespace Go.Proofs.YtcjgilagldbjnaaGreatDoor
section
open Go.RowKit
def SubOut (w w' : World) (m n : Nat) (e : Ending) : Prop :=
 ∃ zs A' c', e = .returned (.tuple #[.slice A' zs.length c', .int .i64 (if m < n then 10 else 0)]) ∧ Num 4294967296 zs (m - n) ∧ Res w' w.heap.size 34 A' c' (u32s zs) ∧ Below w.heap.size w w'
set_option maxHeartbeats 1600000 in
theorem sub_any (A A2 : Option Addr) (c c2 : Nat) (xs ys : List Nat) (w : World) (B : Nat) (hr : Rd w B A (u32s xs)) (hr2 : Rd w B A2 (u32s ys)) (hB : B ≤ w.heap.size) (hd : Dig 4294967296 xs) (hd2 : Dig 4294967296 ys) (hc : xs.length ≤ c) (hc2 : ys.length ≤ c2) (hm : xs.length ≤ 70368744170000) (hm2 : ys.length ≤ 70368744170000) :
  Calls Tryz.prog 110 #[.slice A xs.length c, .slice A2 ys.length c2] w fun e w' => SubOut w w' (val 4294967296 xs) (val 4294967296 ys) e := by
 have hl1 := trimL_length_le xs
 have hl2 := trimL_length_le ys
 obtain ⟨m, hmv⟩ : ∃ m, m = val 4294967296 xs := ⟨_, rfl⟩
 obtain ⟨n, hnv⟩ : ∃ n, n = val 4294967296 ys := ⟨_, rfl⟩
 have hn1 := Num.of_trim hd
 have hn2 := Num.of_trim hd2
 rw [← hmv] at hn1
 rw [← hnv] at hn2
 rw [← hmv, ← hnv]
 have hrt : Rd w B A (u32s (trimL xs)) := by rw [u32s_trim]; exact hr.take _
 have hrt2 : Rd w B A2 (u32s (trimL ys)) := by rw [u32s_trim]; exact hr2.take _
 obtain ⟨us, hps⟩ : ∃ us, us = trimL xs := ⟨_, rfl⟩
 obtain ⟨vs, hqs⟩ : ∃ vs, vs = trimL ys := ⟨_, rfl⟩
 rw [← hps] at hn1 hrt hl1
 rw [← hqs] at hn2 hrt2 hl2
 have Hps := hi9 hps
 have Hqs := hi9 hqs
 have Hm : Hid (val 4294967296 us = m) := hn1.2.2
 have Hn : Hid (val 4294967296 vs = n) := hn2.2.2
 have hdu := hn1.1
 have hdv := hn2.1
 have hm' : xs.length ≤ 281474976710656 := by omega
 have hm2' : ys.length ≤ 281474976710656 := by omega
 have hub : us.length ≤ 281474976710656 := by omega
 have hvb : vs.length ≤ 281474976710656 := by omega
 have huc : us.length ≤ c := by omega
 have hvc : vs.length ≤ c2 := by omega
 have hum : us.length ≤ 70368744177664 := by omega
 clear hps hqs hmv hnv
 rcases Nat.lt_or_ge m n with hlt | hge
 ·have e1 : cmpN m n = -1 := by simp [cmpN, hlt]
  have He1 := hi9 e1
  have Hlt := hi9 hlt
  clear e1 hn1 hn2 hlt
  go_enter Tryz.func110, Tryz.ntmps110
  go_wp2_with (first
   | (go_at_call 37; (with_reducible refine (trim_any A c xs _ B hr hc hm').mono ?_); rintro e w' ⟨rfl, rfl⟩; rw [← Hps.out])
   | (go_at_call 37; (with_reducible refine (trim_any A2 c2 ys _ B hr2 hc2 hm2').mono ?_); rintro e w' ⟨rfl, rfl⟩; rw [← Hqs.out])
   | (go_at_call 43; (with_reducible refine (cmp_any A A2 c c2 us vs _ B hrt hrt2 hdu hdv huc hvc hub hvb).mono ?_); rintro e w2 ⟨rfl, nd, rfl⟩; rw [Hm.out, Hn.out, He1.out]))
  go_ret2
  have hlt := Hlt.out
  refine ⟨[], none, 0, by rw [if_pos hlt]; rfl, ?_, Res.none_, (Dr.refl w).step nd |>.below _⟩
  rw [show m - n = 0 from by omega]; exact Num.zero_ _
 ·obtain ⟨cv, hcv⟩ : ∃ cv, cv = cmpN m n := ⟨_, rfl⟩
  have hcv0 : decide (cv < 0) = false := by
   rw [hcv]; unfold cmpN
   rw [if_neg (by omega)]
   split <;> decide
  have Hcv := hi9 hcv
  have hle : val 4294967296 vs ≤ val 4294967296 us := by rw [Hm.out, Hn.out]; exact hge
  have hll : vs.length ≤ us.length := by
   rcases Nat.lt_or_ge us.length vs.length with h | h
   ·have := val_lt_len (by omega) hn1 hn2 h; omega
   ·exact h
  have Hle := hi9 hle
  have Hge := hi9 hge
  clear hcv hle hge hn1 hn2
  have hmk := fun W => mk32 us.length hum W
  go_enter Tryz.func110, Tryz.ntmps110
  go_wp2_with (first
   | (go_at_call 37; (with_reducible refine (trim_any A c xs _ B hr hc hm').mono ?_); rintro e w' ⟨rfl, rfl⟩; rw [← Hps.out])
   | (go_at_call 37; (with_reducible refine (trim_any A2 c2 ys _ B hr2 hc2 hm2').mono ?_); rintro e w' ⟨rfl, rfl⟩; rw [← Hqs.out])
   | (go_at_call 43; (with_reducible refine (cmp_any A A2 c c2 us vs _ B hrt hrt2 hdu hdv huc hvc hub hvb).mono ?_); rintro e w2 ⟨rfl, nd, rfl⟩; rw [Hm.out, Hn.out, ← Hcv.out])
   | (go_at_call 112; (with_reducible refine (subtracter_any _).mono ?_); rintro e w1 ⟨rfl, hbc, hsz, hbel⟩))
  have hbc : Blk w1 (w.heap.size + 1) 53 [.int .u64 ((0 : Nat) : Int)] := by rw [szA] at hbc; exact hbc
  have hblk0 : Blk w1 w.heap.size 34 (u32s (List.replicate us.length 0)) := by
   have h0 : Blk ((w.drewN nd).alloc (.cells (Array.replicate us.length (Value.int .u32 0)) 34)) w.heap.size 34 (u32s (List.replicate us.length 0)) := Blk.new_ (w := w.drewN nd) (by simp [u32s])
   exact h0.below hbel (by rw [szA]; exact Nat.lt_succ_self _)
  have hbel1 : Below w.heap.size w w1 := ((Dr.refl w).step nd |>.below _).trans ((br9.alloc nl9 _).trans (hbel.mono (by rw [szA]; exact Nat.le_succ _)))
  clear hbel hsz hr hr2
  go_loopw [8, 9, 25] (fun _ _ i wr => ∃ (k cc : Nat) (zs : List Nat), k ≤ vs.length ∧ i = .int .i64 k ∧ Blk wr w.heap.size 34 (u32s zs) ∧ Blk wr (w.heap.size + 1) 53 [.int .u64 (cc : Int)] ∧ Subbed us vs k zs cc ∧ Below w.heap.size w wr) (fun _ _ i _ => vs.length - (intOf i).toNat)
  case atStart => exact ⟨0, 0, _, by omega, rfl, hblk0, hbc, Subbed.start _ _, hbel1⟩
  case round =>
   clear hblk0 hbc hbel1
   obtain ⟨k, cc, zs, hk, rfl, hblk, hbc, hsu, hbel⟩ := hrel
   have hcc := hsu.2.1
   by_cases hlt : k < vs.length
   ·have hku : k < us.length := by omega
    obtain ⟨b, off, rfl, hb, hx⟩ := hrt.at32 hku
    obtain ⟨b2, off2, rfl, hb2, hy⟩ := hrt2.at32 hlt
    have hx := (hbel.cell (p := ⟨b, off + k, none⟩) (show b < _ by omega)).trans hx
    have hy := (hbel.cell (p := ⟨b2, off2 + k, none⟩) (show b2 < _ by omega)).trans hy
    have hxd := hdu.at_ k hku
    have hyd := hdv.at_ k hlt
    have hz1 : k < zs.length := by rw [hsu.2.2.2.2]; exact hku
    go_wp2_with (go_at_call 113; (with_reducible refine (subtracter1_any _ _ cc _ _ hxd hyd hcc hbc).mono ?_); rintro e w2 ⟨rfl, hg2, hch⟩; have hq2 := hblk.ch hch (by omega); have hc2 := (hq2.cell k).trans (u32s_at hz1); have hf2 := hq2.frozen k)
    go_roundw
    case rel =>
     have h9 := hsu.step hz1 hdu hdv
     rw [at0_in hku, at0_in hlt] at h9
     refine ⟨k + 1, 1 - (4294967296 + us[k] - vs[k] - cc) / 4294967296, zs.set k ((4294967296 + us[k] - vs[k] - cc) % 4294967296), by omega, by go_num, ?_, hg2.far (p := ⟨w.heap.size, k, none⟩) (by simp) _, h9, (hbel.trans (hch.below (by omega))).setCell (p := ⟨w.heap.size, k, none⟩) nl9 _⟩
     have hb2 := hq2.set_ k (Value.int IntKind.u32 (((4294967296 + us[k] - vs[k] - cc) % 4294967296 : Nat) : Int))
     rw [u32s_set] at hb2
     exact hb2
    case measure => simp [intOf]; omega
   ·obtain rfl : k = vs.length := by omega
    go_wp2_with fail
    go_loopw [10] (fun i wr => ∃ (k cc : Nat) (zs : List Nat), vs.length ≤ k ∧ k ≤ us.length ∧ i = .int .i64 k ∧ Blk wr w.heap.size 34 (u32s zs) ∧ Blk wr (w.heap.size + 1) 53 [.int .u64 (cc : Int)] ∧ Subbed us vs k zs cc ∧ Below w.heap.size w wr) (fun i _ => us.length - (intOf i).toNat)
    case atStart => exact ⟨vs.length, cc, zs, by omega, hll, rfl, hblk, hbc, hsu, hbel⟩
    case round =>
     clear hblk hbc hsu hbel hcc
     obtain ⟨k, cc, zs, hkv, hk, rfl, hblk, hbc, hsu, hbel⟩ := hrel
     have hcc := hsu.2.1
     by_cases hlt : k < us.length
     ·obtain ⟨b, off, rfl, hb, hx⟩ := hrt.at32 hlt
      have hx := (hbel.cell (p := ⟨b, off + k, none⟩) (show b < _ by omega)).trans hx
      have hxd := hdu.at_ k hlt
      have hz1 : k < zs.length := by rw [hsu.2.2.2.2]; exact hlt
      go_wp2_with fail
      refine (subtracter1_any us[k] 0 cc _ _ hxd (by omega) hcc hbc).mono ?_
      rintro e w2 ⟨rfl, hg2, hch⟩
      have hq2 := hblk.ch hch (by omega)
      have hc2 := (hq2.cell k).trans (u32s_at hz1)
      have hf2 := hq2.frozen k
      go_wp2_with fail
      go_roundw
      case rel =>
       have h9 := hsu.step hz1 hdu hdv
       rw [at0_in hlt, at0_out hkv] at h9
       refine ⟨k + 1, 1 - (4294967296 + us[k] - 0 - cc) / 4294967296, zs.set k ((4294967296 + us[k] - 0 - cc) % 4294967296), by omega, by omega, by go_num, ?_, hg2.far (p := ⟨w.heap.size, k, none⟩) (by simp) _, h9, (hbel.trans (hch.below (by omega))).setCell (p := ⟨w.heap.size, k, none⟩) nl9 _⟩
       have hb2 := hq2.set_ k (Value.int IntKind.u32 (((4294967296 + us[k] - 0 - cc) % 4294967296 : Nat) : Int))
       rw [u32s_set] at hb2
       exact hb2
      case measure => simp [intOf]; omega
     ·obtain rfl : k = us.length := by omega
      have hl2 : Hid (zs.length = us.length) := hsu.2.2.2.2
      have hm2 : zs.length ≤ 281474976710656 := by have := hl2.out; omega
      have Hlv : Hid (val 4294967296 zs = m - n) := by
       have := hsu.last hdu hdv Hle.out
       rw [Hm.out, Hn.out] at this
       exact this
      have hrd := (Res.of_blk0 hblk nl9 (by rw [u32s_length]; omega)).rd
      go_wp2_with (go_at_call 37; rw [← hl2.out]; refine (trim_any _ _ zs _ _ hrd nl9 hm2).mono ?_; rintro e w3 ⟨rfl, rfl⟩)
      go_ret2
      have hge := Hge.out
      refine ⟨trimL zs, _, _, by rw [if_neg (by omega)]; rfl, ?_, ?_, hbel⟩
      ·have hz := Num.of_trim hsu.1
       rw [Hlv.out] at hz
       exact hz
      ·have h3 := (Res.of_blk0 hblk nl9 (by rw [u32s_length]; omega)).take (trimL zs).length
       rw [← u32s_trim, u32s_length] at h3
       exact h3
theorem mul_T {b : Nat} {us : List Nat} {k v : Nat} (hu : k < us.length) : val b (us.take k) * v + b ^ k * (us[k] * v) = val b (us.take (k + 1)) * v := by
 rw [val_take_succ b us k hu, Nat.add_mul, Nat.mul_assoc]
theorem carry_mul {c x v : Nat} {B : Nat} (hc : c < B) (hx : x < B) (hv : v < B) : (c + x * v) / B < B := by
 rw [Nat.div_lt_iff_lt_mul (by omega)]
 have h1 : x * v ≤ (B - 1) * (B - 1) := Nat.mul_le_mul (by omega) (by omega)
 obtain ⟨q, rfl⟩ : ∃ q, B = q + 1 := ⟨B - 1, by omega⟩
 have h2 : (q + 1) * (q + 1) = q * q + q + q + 1 := by rw [Nat.add_mul, Nat.mul_add]; omega
 rw [h2]
 simp only [Nat.add_sub_cancel] at h1
 omega
set_option maxHeartbeats 1600000 in
theorem shortMul_any (A : Option Addr) (c : Nat) (us : List Nat) (v : Nat) (w : World) (B : Nat) (hru : Rd w B A (u32s us)) (hB : B ≤ w.heap.size) (hdu : Dig 4294967296 us) (hv : v < 4294967296) (hm : us.length ≤ 70368744170000) :
  Calls Tryz.prog 69 #[.slice A us.length c, .int .u32 (v : Int)] w fun e w' => ∃ zs A' c', e = .returned (.slice A' zs.length c') ∧ Num 4294967296 zs (val 4294967296 us * v) ∧ Res w' w.heap.size 34 A' c' (u32s zs) ∧ Below w.heap.size w w' := by
 have hmk := fun W => mk32s us.length (by omega) W
 go_enter Tryz.func69, Tryz.ntmps69
 go_wp2_with (go_at_call 79; (with_reducible refine (scaler_any _ _).mono ?_); rintro e w1 ⟨rfl, hbn, hbc, hsz, hbel⟩)
 rw [szA] at hbn hbc hsz hbel
 have hblk0 : Blk w1 w.heap.size 34 (u32s (List.replicate (us.length + 1) 0)) := by
  have h0 : Blk (w.alloc (.cells (Array.replicate (us.length + 1) (Value.int .u32 0)) 34)) w.heap.size 34 (u32s (List.replicate (us.length + 1) 0)) := Blk.new_ (by simp [u32s])
  exact h0.below hbel (by omega)
 have hbel1 : Below w.heap.size w w1 := (br9.alloc nl9 _).trans (hbel.mono (by omega))
 clear hbel hsz
 obtain ⟨os, hos⟩ : ∃ os, os = List.replicate (us.length + 1) 0 := ⟨_, rfl⟩
 have hol : os.length = us.length + 1 := by rw [hos]; simp
 have ho0 : Hid (∀ k (h : k < os.length), os[k] = 0) := by subst hos; exact fun k h => by simp
 have hov : Hid (val 4294967296 os = 0) := by rw [hos]; exact val_zeros _ _
 have hod : Dig 4294967296 os := by rw [hos]; exact Dig.zeros_ (by omega) _
 rw [← hos] at hblk0
 have Hol := hi9 hol
 clear hos hol
 go_loopw [7, 8, 17] (fun _ _ i wr => ∃ (k cc : Nat) (zs : List Nat), k ≤ us.length ∧ i = .int .i64 k ∧ cc < 4294967296 ∧ Blk wr w.heap.size 34 (u32s zs) ∧ Blk wr (w.heap.size + 1) 34 [.int .u32 (v : Int)] ∧ Blk wr (w.heap.size + 1 + 1) 53 [.int .u64 (cc : Int)] ∧ Acc 4294967296 os (val 4294967296 (us.take k) * v) k zs cc ∧ Below w.heap.size w wr) (fun _ _ i _ => us.length - (intOf i).toNat)
 case atStart => exact ⟨0, 0, os, by omega, rfl, by omega, hblk0, hbn, hbc, by simpa [val] using Acc.start hod, hbel1⟩
 case round =>
  clear hblk0 hbc hbn hbel1
  obtain ⟨k, cc, zs, hk, rfl, hcc, hblk, hbn, hbc, hacc, hbel⟩ := hrel
  by_cases hlt : k < us.length
  ·obtain ⟨b, off, rfl, hb, hx⟩ := hru.at32 hlt
   have hx := (hbel.cell (p := ⟨b, off + k, none⟩) (show b < _ by omega)).trans hx
   have hxd := hdu.at_ k hlt
   have hz1 : k < zs.length := by have := hacc.2.1.trans Hol.out; omega
   have hko : k < os.length := by have := Hol.out; omega
   go_wp2_with (go_at_call 91; (with_reducible refine (scaler1_any _ v cc _ _ _ hxd hv hcc hbc hbn (by omega)).mono ?_); rintro e w2 ⟨rfl, hg2, hch⟩; have hq2 := hblk.ch hch (by omega); have hc2 := (hq2.cell k).trans (u32s_at hz1); have hf2 := hq2.frozen k)
   go_roundw
   case rel =>
    have h9 := hacc.step (d := us[k] * v) (r := (cc + us[k] * v) % 4294967296) (q := (cc + us[k] * v) / 4294967296) hko (by omega) (by rw [ho0.out k hko]; omega)
    rw [mul_T hlt] at h9
    refine ⟨k + 1, (cc + us[k] * v) / 4294967296, zs.set k ((cc + us[k] * v) % 4294967296), by omega, by go_num, carry_mul hcc hxd hv, ?_, (hbn.ch hch (by omega)).far (p := ⟨w.heap.size, k, none⟩) (by simp) _, hg2.far (p := ⟨w.heap.size, k, none⟩) (by simp; omega) _, h9, (hbel.trans (hch.below (by omega))).setCell (p := ⟨w.heap.size, k, none⟩) nl9 _⟩
    have hb2 := hq2.set_ k (Value.int IntKind.u32 (((cc + us[k] * v) % 4294967296 : Nat) : Int))
    rw [u32s_set] at hb2
    exact hb2
   case measure => simp [intOf]; omega
  ·obtain rfl : k = us.length := by omega
   have hz1 : us.length < zs.length := by have := hacc.2.1.trans Hol.out; omega
   have hko : us.length < os.length := by have := Hol.out; omega
   go_wp2_with fail
   refine (scaler1_any 0 v cc _ _ _ (by omega) hv hcc hbc hbn (by omega)).mono ?_
   rw [show cc + 0 * v = cc from by omega]
   rintro e w2 ⟨rfl, hg2, hch⟩
   have hq2 := hblk.ch hch (by omega)
   have hc2 := (hq2.cell us.length).trans (u32s_at hz1)
   have hf2 := hq2.frozen us.length
   have hb2 : Blk (w2.setCell ⟨w.heap.size, us.length, none⟩ (.int .u32 ((cc % 4294967296 : Nat) : Int))) w.heap.size 34 (u32s (zs.set us.length (cc % 4294967296))) := by
    have := hq2.set_ us.length (Value.int IntKind.u32 ((cc % 4294967296 : Nat) : Int))
    rwa [u32s_set] at this
   have h9 := hacc.step (d := 0) (r := cc % 4294967296) (q := cc / 4294967296) hko (by omega) (by rw [ho0.out _ hko]; omega)
   obtain ⟨zs2, hzs2⟩ : ∃ zs2, zs2 = zs.set us.length (cc % 4294967296) := ⟨_, rfl⟩
   rw [← hzs2] at hb2 h9
   have hl2 : Hid (zs2.length = us.length + 1) := h9.2.1.trans Hol.out
   have hm2 : zs2.length ≤ 281474976710656 := by have := hl2.out; omega
   have Hlv : Hid (val 4294967296 zs2 = val 4294967296 us * v) := by
    have := h9.done (by omega)
    rw [hov.out, List.take_length, Nat.mul_zero, Nat.add_zero, Nat.zero_add] at this
    exact this
   have ld := h9.1
   have hbel3 := (hbel.trans (hch.below (B := w.heap.size) (by omega))).setCell (p := ⟨w.heap.size, us.length, none⟩) nl9 (.int .u32 ((cc % 4294967296 : Nat) : Int))
   clear hzs2 h9
   have hrd := (Res.of_blk0 hb2 nl9 (by rw [u32s_length]; omega)).rd
   go_wp2_with (go_at_call 37; rw [← hl2.out]; refine (trim_any _ _ zs2 _ _ hrd nl9 hm2).mono ?_; rintro e w3 ⟨rfl, rfl⟩)
   go_ret
   refine ⟨trimL zs2, _, _, rfl, ?_, ?_, hbel3⟩
   ·have hz := Num.of_trim ld
    rw [Hlv.out] at hz
    exact hz
   ·have h3 := (Res.of_blk0 hb2 nl9 (by rw [u32s_length]; omega)).take (trimL zs2).length
    rw [← u32s_trim, u32s_length] at h3
    exact h3
end
section
open Go.RowKit
theorem num_eq {b m n : Nat} {zs : List Nat} (h : Num b zs m) (e : m = n) : Num b zs n := e ▸ h
set_option maxHeartbeats 1600000 in
theorem mul_any (A A2 : Option Addr) (c c2 : Nat) (xs ys : List Nat) (w : World) (B : Nat) (hr : Rd w B A (u32s xs)) (hr2 : Rd w B A2 (u32s ys)) (hB : B ≤ w.heap.size) (hd : Dig 4294967296 xs) (hd2 : Dig 4294967296 ys) (hc : xs.length ≤ c) (hc2 : ys.length ≤ c2) (hm : xs.length ≤ 281474976710656) (hm2 : ys.length ≤ 281474976710656) (hmm : (trimL xs).length + (trimL ys).length ≤ 1073741820) :
  Calls Tryz.prog 44 #[.slice A xs.length c, .slice A2 ys.length c2] w fun e w' => ∃ zs A' c', e = .returned (.slice A' zs.length c') ∧ Num 4294967296 zs (val 4294967296 xs * val 4294967296 ys) ∧ Res w' w.heap.size 34 A' c' (u32s zs) ∧ Below w.heap.size w w' := by
 have hl1 := trimL_length_le xs
 have hl2 := trimL_length_le ys
 obtain ⟨m, hmv⟩ : ∃ m, m = val 4294967296 xs := ⟨_, rfl⟩
 obtain ⟨n, hnv⟩ : ∃ n, n = val 4294967296 ys := ⟨_, rfl⟩
 have hn1 := Num.of_trim hd
 have hn2 := Num.of_trim hd2
 rw [← hmv] at hn1
 rw [← hnv] at hn2
 rw [← hmv, ← hnv]
 have hrt : Rd w B A (u32s (trimL xs)) := by rw [u32s_trim]; exact hr.take _
 have hrt2 : Rd w B A2 (u32s (trimL ys)) := by rw [u32s_trim]; exact hr2.take _
 obtain ⟨ps, hps⟩ : ∃ ps, ps = trimL xs := ⟨_, rfl⟩
 obtain ⟨qs, hqs⟩ : ∃ qs, qs = trimL ys := ⟨_, rfl⟩
 rw [← hps] at hn1 hrt hl1 hmm
 rw [← hqs] at hn2 hrt2 hl2 hmm
 have Hps := hi9 hps
 have Hqs := hi9 hqs
 have hdp := hn1.1
 have hdq := hn2.1
 have Hm : Hid (val 4294967296 ps = m) := hn1.2.2
 have Hn : Hid (val 4294967296 qs = n) := hn2.2.2
 clear hps hqs hmv hnv
 by_cases hp0 : ps = []
 ·have hm0 : m = 0 := (hn1.nil_iff (by omega)).1 hp0
  have t1 : ((ps.length : Int) == 0) = true := by rw [hp0]; rfl
  have Hm0 := hi9 hm0
  clear hm0 hp0 hn1 hn2
  go_enter Tryz.func44, Tryz.ntmps44
  go_wp2_with (first
   | (go_at_call 37; (with_reducible refine (trim_any A c xs _ B hr hc hm).mono ?_); rintro e w' ⟨rfl, rfl⟩; rw [← Hps.out])
   | (go_at_call 37; (with_reducible refine (trim_any A2 c2 ys _ B hr2 hc2 hm2).mono ?_); rintro e w' ⟨rfl, rfl⟩; rw [← Hqs.out]))
  go_ret
  exact ⟨[], none, 0, rfl, by rw [Hm0.out, Nat.zero_mul]; exact Num.zero_ _, Res.none_, br9⟩
 have hpl : 0 < ps.length := by
  rcases Nat.eq_zero_or_pos ps.length with h | h
  ·exact absurd (List.eq_nil_of_length_eq_zero h) hp0
  ·exact h
 have t1 : ((ps.length : Int) == 0) = false := by simp; omega
 by_cases hq0 : qs = []
 ·have hm0 : n = 0 := (hn2.nil_iff (by omega)).1 hq0
  have t2 : ((qs.length : Int) == 0) = true := by rw [hq0]; rfl
  have Hm0 := hi9 hm0
  clear hm0 hq0 hn1 hn2 hp0
  go_enter Tryz.func44, Tryz.ntmps44
  go_wp2_with (first
   | (go_at_call 37; (with_reducible refine (trim_any A c xs _ B hr hc hm).mono ?_); rintro e w' ⟨rfl, rfl⟩; rw [← Hps.out])
   | (go_at_call 37; (with_reducible refine (trim_any A2 c2 ys _ B hr2 hc2 hm2).mono ?_); rintro e w' ⟨rfl, rfl⟩; rw [← Hqs.out]))
  go_ret
  exact ⟨[], none, 0, rfl, by rw [Hm0.out, Nat.mul_zero]; exact Num.zero_ _, Res.none_, br9⟩
 have hql : 0 < qs.length := by
  rcases Nat.eq_zero_or_pos qs.length with h | h
  ·exact absurd (List.eq_nil_of_length_eq_zero h) hq0
  ·exact h
 have t2 : ((qs.length : Int) == 0) = false := by simp; omega
 have hpc : ps.length ≤ c := by omega
 have hqc : qs.length ≤ c2 := by omega
 clear hn1 hn2 hp0 hq0
 go_enter Tryz.func44, Tryz.ntmps44
 go_upto_if 23 with (first
  | (go_at_call 37; (with_reducible refine (trim_any A c xs _ B hr hc hm).mono ?_); rintro e w' ⟨rfl, rfl⟩; rw [← Hps.out])
  | (go_at_call 37; (with_reducible refine (trim_any A2 c2 ys _ B hr2 hc2 hm2).mono ?_); rintro e w' ⟨rfl, rfl⟩; rw [← Hqs.out]))
 go_cut [0, 1] (fun s0 s1 wc => ∃ (D D2 : Option Addr) (d d2 : Nat) (us vs : List Nat), s0 = .slice D us.length d ∧ s1 = .slice D2 vs.length d2 ∧ vs.length ≤ us.length ∧ 0 < vs.length ∧ us.length + vs.length ≤ 1073741820 ∧ Dig 4294967296 us ∧ Dig 4294967296 vs ∧ Hid (val 4294967296 us * val 4294967296 vs = m * n) ∧ Rd w B D (u32s us) ∧ Rd w B D2 (u32s vs) ∧ us.length ≤ d ∧ vs.length ≤ d2 ∧ wc = w)
 case first =>
  by_cases hlt : ps.length < qs.length
  ·go_wp2
   go_meet
   exact ⟨A2, A, c2, c, qs, ps, rfl, rfl, by omega, hpl, by omega, hdq, hdp, hi9 (by rw [Hm.out, Hn.out, Nat.mul_comm]), hrt2, hrt, hqc, hpc, rfl⟩
  ·go_wp2
   go_meet
   exact ⟨A, A2, c, c2, ps, qs, rfl, rfl, by omega, hql, by omega, hdp, hdq, hi9 (by rw [Hm.out, Hn.out]), hrt, hrt2, hpc, hqc, rfl⟩
 case rest =>
  clear hr hr2 hd hd2 hc hc2 hm hm2 hl1 hl2 hrt hrt2 Hps Hqs hdp hdq Hm Hn hpc hqc t1 t2 hpl hql hmm
  obtain ⟨D, D2, d, d2, us, vs, rfl, rfl, hle, hv0, hub, hdu, hdv, Hval, hru, hrv, hud, hvd, rfl⟩ := hcut
  by_cases h2 : us.length ≤ 2
  ·have t1 : decide ((us.length : Int) ≤ 2) = true := by simp; omega
   have hx := val_lt _ us hdu
   have hy := val_lt _ vs hdv
   have hp2 : (4294967296 : Nat) ^ us.length ≤ 4294967296 ^ 2 := Nat.pow_le_pow_right (by omega) h2
   have hp3 : (4294967296 : Nat) ^ vs.length ≤ 4294967296 ^ 2 := Nat.pow_le_pow_right (by omega) (by omega)
   rw [show (4294967296 : Nat) ^ 2 = 18446744073709551616 from rfl] at hp2 hp3
   obtain ⟨x, hxe⟩ : ∃ x, x = val 4294967296 us := ⟨_, rfl⟩
   obtain ⟨y, hye⟩ : ∃ y, y = val 4294967296 vs := ⟨_, rfl⟩
   have hxb : x < 18446744073709551616 := by rw [hxe]; exact Nat.lt_of_lt_of_le hx hp2
   have hyb : y < 18446744073709551616 := by rw [hye]; exact Nat.lt_of_lt_of_le hy hp3
   have Hxy := Hval.out
   rw [← hxe, ← hye] at Hxy
   have hwx := fun W hW => word_any D d us W B (hru.dr (w' := W) hW) hdu h2
   have hwy := fun W hW => word_any D2 d2 vs W B (hrv.dr (w' := W) hW) hdv (by omega)
   rw [← hxe] at hwx
   rw [← hye] at hwy
   have Hwx := hi9 hwx
   have Hwy := hi9 hwy
   have hmul := fun W => mul64_any x y W hxb hyb
   obtain ⟨hi, hhi⟩ : ∃ hi, hi = x * y / 18446744073709551616 := ⟨_, rfl⟩
   obtain ⟨lo, hlo⟩ : ∃ lo, lo = x * y % 18446744073709551616 := ⟨_, rfl⟩
   rw [← hhi, ← hlo] at hmul
   have hv : val 18446744073709551616 [lo, hi] = m * n := by
    rw [← Hxy]; simp only [val]; rw [hhi, hlo]; omega
   have hib : hi < 18446744073709551616 := by
    rw [hhi, Nat.div_lt_iff_lt_mul (by omega)]
    have : x * y ≤ 18446744073709551615 * 18446744073709551615 := Nat.mul_le_mul (by omega) (by omega)
    omega
   have hlb : lo < 18446744073709551616 := by rw [hlo]; exact Nat.mod_lt _ (by omega)
   have Hv := hi9 hv
   have Hmul := hi9 hmul
   clear hhi hlo hv hmul hwx hwy hxe hye hx hy hp2 hp3 Hxy
   go_wp2_with (first
    | (go_at_call 68; (with_reducible refine (Hwx.out _ (by first | exact Dr.refl _ | assumption)).mono ?_); rintro e wx ⟨rfl, hdx⟩)
    | (go_at_call 68; (with_reducible refine (Hwy.out _ (by first | exact Dr.refl _ | assumption)).mono ?_); rintro e wy ⟨rfl, hdy⟩)
    | (go_at_call 66; (with_reducible refine (Hmul.out _).mono ?_); rintro e w' ⟨rfl, rfl⟩))
   have hwb : Below wc.heap.size wc wy := (hdx.below _).trans (hdy.below _)
   have hblk : Blk (wy.alloc (.cells #[.int .u64 (lo : Int), .int .u64 (hi : Int)] 53)) wy.heap.size 53 (u64s [lo, hi]) := Blk.new_ rfl
   refine (narrow_any (some ⟨wy.heap.size, 0, none⟩) 2 [lo, hi] _ (wy.heap.size + 1) (Rd.of_blk hblk (Nat.lt_succ_self _) 0 (fun k v hv => by rw [Nat.zero_add]; exact hv)) (by rw [szA]; exact Nat.le_refl _) (Dig.cons_ hlb (Dig.cons_ hib (Dig.nil_ _))) (by simp) (by simp)).mono ?_
   rintro e w3 ⟨zs, A', c', rfl, hz, hres, hb3⟩
   rw [szA] at hres hb3
   have hwz := hwb.size
   go_wp2_with fail
   go_ret
   exact ⟨zs, A', c', rfl, num_eq hz Hv.out, hres.mono (by omega), (hwb.alloc hwz _).trans (hb3.mono (by omega))⟩
  ·have t1 : decide ((us.length : Int) ≤ 2) = false := by simp; omega
   by_cases h1 : vs.length = 1
   ·obtain ⟨v, rfl⟩ := len_one h1
    have hvv : v < 4294967296 := hdv.head_
    have Hval2 : Hid (val 4294967296 us * v = m * n) := by
     have := Hval.out
     simp only [val, Nat.mul_zero, Nat.add_zero] at this
     exact this
    obtain ⟨b, off, rfl, hb, hx⟩ := hrv.at32 (k := 0) (by simp)
    have hx0 : wc.cell? ⟨b, off, none⟩ = some (.int .u32 (v : Int)) := hx
    clear hx h1
    go_wp2_with fail
    refine (shortMul_any D d us v _ B hru hB hdu hvv (by omega)).mono ?_
    rintro e w3 ⟨zs, A', c', rfl, hz, hres, hb3⟩
    go_wp2_with fail
    go_ret
    exact ⟨zs, A', c', rfl, num_eq hz Hval2.out, hres, hb3⟩
   ·have t2 : ((vs.length : Int) == 1) = false := by simp; omega
    have hw1 := wide_any D d us wc B hru hB hdu hud (by omega)
    have Hw1 := hi9 hw1
    clear hw1
    go_wp2_with fail
    refine Hw1.out.mono ?_
    rintro e w1 ⟨ks, A1, c1, rfl, hal, had, hav, hares, hb1⟩
    have Hal := hi9 hal
    have Hav := hi9 hav
    clear hal hav
    go_wp2_with fail
    refine (wide_any D2 d2 vs w1 B (hrv.below (hb1.mono hB)) (Nat.le_trans hB hb1.size) hdv hvd (by omega)).mono ?_
    rintro e w2 ⟨bs, A3, c3, rfl, hbl, hbd, hbv, hbres, hb2⟩
    have Hbl := hi9 hbl
    have Hbv := hi9 hbv
    clear hbl hbv
    have hra : Rd w2 w2.heap.size A1 (u64s ks) := (hares.below hb2 nl9).rd
    have hca := hares.1
    have hcb := hbres.1
    rw [u64s_length] at hca hcb
    go_wp2_with fail
    refine (product_any A1 A3 c1 c3 ks bs w2 w2.heap.size hra hbres.rd nl9 had hbd hca hcb (by have := Hal.out; have := Hbl.out; omega)).mono ?_
    rintro e w3 ⟨ps2, g, rfl, hpl, hpd, hpv, hg, hblk, hb3⟩
    have Hpl := hi9 hpl
    have Hpv := hi9 hpv
    clear hpl hpv
    go_wp2_with fail
    refine (narrow_any (some ⟨g, 0, none⟩) ps2.length ps2 w3 w3.heap.size (Rd.of_blk hblk hblk.lt 0 (fun k v hv => by rw [Nat.zero_add]; exact hv)) nl9 hpd nl9 (by have := Hpl.out; have := Hal.out; have := Hbl.out; omega)).mono ?_
    rintro e w4 ⟨zs, A', c', rfl, hz, hres, hb4⟩
    have hs1 := hb1.size
    have hs2 := hb2.size
    have hs3 := hb3.size
    go_wp2_with fail
    go_ret
    exact ⟨zs, A', c', rfl, num_eq hz (by rw [Hpv.out, Hav.out, Hbv.out, Hval.out]), hres.mono (by omega), hb1.trans ((hb2.mono hs1).trans ((hb3.mono (by omega)).trans (hb4.mono (by omega))))⟩
end
section
open Go.RowKit
theorem blk_two {w : World} {o : Obj} {t : TypeId} {cs : Array Value} {vs : List Value} (e : cs = vs.toArray) : Blk ((w.alloc o).alloc (.cells cs t (0, 0))) (w.heap.size + 1) t vs := by
 have := Blk.new_ (w := w.alloc o) (t := t) e
 simpa using this
theorem size_alloc (w : World) (o : Obj) : (w.alloc o).heap.size = w.heap.size + 1 := by simp
end
section
open Go.RowKit
theorem shl_split (x n m : Nat) (hnm : n + m = 64) : x * 2 ^ n = x * 2 ^ n % 18446744073709551616 + 18446744073709551616 * (x / 2 ^ m) ∧ x * 2 ^ n % 18446744073709551616 = x % 2 ^ m * 2 ^ n := by
 have hW : (18446744073709551616 : Nat) = 2 ^ m * 2 ^ n := by rw [← Nat.pow_add, Nat.add_comm, hnm]
 have h1 : x * 2 ^ n / 18446744073709551616 = x / 2 ^ m := by rw [hW, Nat.mul_div_mul_right _ _ (Nat.two_pow_pos n)]
 have h2 := Nat.div_add_mod (x * 2 ^ n) 18446744073709551616
 rw [h1] at h2
 exact ⟨by omega, by rw [hW, Nat.mul_mod_mul_right]⟩
theorem shr_lt {x n m : Nat} (hnm : n + m = 64) (hx : x < 18446744073709551616) : x / 2 ^ m < 2 ^ n := by
 refine (Nat.div_lt_iff_lt_mul (Nat.two_pow_pos m)).2 ?_
 rw [← Nat.pow_add, hnm]
 exact hx
theorem lo_lt {y x n m : Nat} (hnm : n + m = 64) (hy : y < 2 ^ n) : y + x * 2 ^ n % 18446744073709551616 < 18446744073709551616 := by
 have h2 := (shl_split x n m hnm).2
 have hW : (18446744073709551616 : Nat) = 2 ^ m * 2 ^ n := by rw [← Nat.pow_add, Nat.add_comm, hnm]
 have h3 : (x % 2 ^ m + 1) * 2 ^ n ≤ 2 ^ m * 2 ^ n := Nat.mul_le_mul_right _ (Nat.mod_lt _ (Nat.two_pow_pos m))
 rw [Nat.add_mul, ← h2, ← hW] at h3
 omega
structure Up (us : List Nat) (n k : Nat) (zs : List Nat) : Prop where
 len : zs.length = us.length + 1
 dig : Dig 18446744073709551616 zs
 sum : val 18446744073709551616 zs = val 18446744073709551616 (us.take k) * 2 ^ n
 low : ∀ h : k < zs.length, zs[k] < 2 ^ n
 zero : ∀ j (h : j < zs.length), k < j → zs[j] = 0
theorem Up.start (us : List Nat) (n : Nat) : Up us n 0 (List.replicate (us.length + 1) 0) := by
 refine ⟨by simp, Dig.zeros_ (by omega) _, by rw [val_zeros]; simp [val], fun h => ?_, fun j h _ => by simp⟩
 rw [List.getElem_replicate]
 exact Nat.two_pow_pos n
theorem Up.step {us zs : List Nat} {n m k : Nat} (h : Up us n k zs) (hnm : n + m = 64) (hk : k < us.length) (hz : k < zs.length) (hx : us[k] < 18446744073709551616) :
  Up us n (k + 1) ((zs.set k (zs[k] + us[k] * 2 ^ n % 18446744073709551616)).set (k + 1) (us[k] / 2 ^ m)) := by
 have h1 := h.low hz
 have h2 := lo_lt (x := us[k]) hnm h1
 have h3 := shr_lt hnm hx
 have hl := h.len
 have hk1 : k + 1 < zs.length := by omega
 have hl2 : (zs.set k (zs[k] + us[k] * 2 ^ n % 18446744073709551616)).length = zs.length := List.length_set
 have e1 := val_set 18446744073709551616 zs k (zs[k] + us[k] * 2 ^ n % 18446744073709551616) hz
 have e2 := val_set 18446744073709551616 (zs.set k (zs[k] + us[k] * 2 ^ n % 18446744073709551616)) (k + 1) (us[k] / 2 ^ m) (by omega)
 rw [List.getElem_set_ne (by omega), h.zero (k + 1) hk1 (by omega), Nat.mul_zero, Nat.add_zero] at e2
 have e3 := (shl_split us[k] n m hnm).1
 refine ⟨by rw [List.length_set, List.length_set]; exact hl, (h.dig.set_ k _ h2).set_ (k + 1) _ (Nat.lt_of_le_of_lt (Nat.div_le_self _ _) hx), ?_, fun hh => ?_, fun j hj hkj => ?_⟩
 ·rw [e2, val_take_succ _ _ _ hk, Nat.add_mul, ← h.sum]
  rw [Nat.mul_add] at e1
  have e4 : 18446744073709551616 ^ k * us[k] * 2 ^ n = 18446744073709551616 ^ k * (us[k] * 2 ^ n % 18446744073709551616) + 18446744073709551616 ^ (k + 1) * (us[k] / 2 ^ m) := by
   rw [Nat.mul_assoc]
   conv => lhs; rw [e3]
   rw [Nat.mul_add, Nat.pow_succ, Nat.mul_assoc]
  omega
 ·rw [List.getElem_set_self]; exact h3
 ·rw [List.length_set, List.length_set] at hj
  rw [List.getElem_set_ne (by omega), List.getElem_set_ne (by omega)]
  exact h.zero j hj (by omega)
end
section
open Go.RowKit
structure Down (us : List Nat) (n m k : Nat) (zs : List Nat) : Prop where
 len : zs.length = us.length
 dig : Dig 18446744073709551616 zs
 sum : val 18446744073709551616 zs = val 18446744073709551616 (us.take k) / 2 ^ n
 low : ∀ j (h : j < zs.length), k = j + 1 → zs[j] < 2 ^ m
 zero : ∀ j (h : j < zs.length), k ≤ j → zs[j] = 0
theorem Down.start (us : List Nat) (n m : Nat) : Down us n m 0 (List.replicate us.length 0) :=
 ⟨by simp, Dig.zeros_ (by omega) _, by rw [val_zeros]; simp [val], fun j h e => by omega, fun j h _ => by simp⟩
theorem Down.first {us zs : List Nat} {n m : Nat} (h : Down us n m 0 zs) (hnm : n + m = 64) (hk : 0 < us.length) (hx : us[0] < 18446744073709551616) : Down us n m (0 + 1) (zs.set 0 (us[0] / 2 ^ n)) := by
 have hl := h.len
 have e1 := val_set 18446744073709551616 zs 0 (us[0] / 2 ^ n) (by omega)
 rw [h.zero 0 (by omega) nl9, Nat.mul_zero, Nat.add_zero] at e1
 refine ⟨by rw [List.length_set]; exact hl, h.dig.set_ 0 _ (Nat.lt_of_le_of_lt (Nat.div_le_self _ _) hx), ?_, fun j hj e => ?_, fun j hj hkj => ?_⟩
 ·rw [e1, h.sum, val_take_succ _ _ _ hk]
  simp [val]
 ·obtain rfl : j = 0 := by omega
  rw [List.getElem_set_self]
  exact shr_lt (by omega) hx
 ·rw [List.length_set] at hj
  rw [List.getElem_set_ne (by omega)]
  exact h.zero j hj (by omega)
theorem Down.step {us zs : List Nat} {n m k : Nat} (h : Down us n m (k + 1) zs) (hnm : n + m = 64) (hk : k + 1 < us.length) (hz : k < zs.length) (hx : us[k + 1] < 18446744073709551616) :
  Down us n m (k + 1 + 1) ((zs.set (k + 1) (us[k + 1] / 2 ^ n)).set k (zs[k] + us[k + 1] * 2 ^ m % 18446744073709551616)) := by
 have h1 := h.low k hz rfl
 have h2 := lo_lt (x := us[k + 1]) (n := m) (m := n) (by omega) h1
 have h3 := shr_lt (n := m) (m := n) (by omega) hx
 have hl := h.len
 have hk1 : k + 1 < zs.length := by omega
 have e1 := val_set 18446744073709551616 zs (k + 1) (us[k + 1] / 2 ^ n) hk1
 rw [h.zero (k + 1) hk1 nl9, Nat.mul_zero, Nat.add_zero] at e1
 have e2 := val_set 18446744073709551616 (zs.set (k + 1) (us[k + 1] / 2 ^ n)) k (zs[k] + us[k + 1] * 2 ^ m % 18446744073709551616) (by rw [List.length_set]; exact hz)
 rw [List.getElem_set_ne (by omega), Nat.mul_add] at e2
 have e3 := (shl_split us[k + 1] m n (by omega)).1
 refine ⟨by rw [List.length_set, List.length_set]; exact hl, (h.dig.set_ (k + 1) _ (Nat.lt_of_le_of_lt (Nat.div_le_self _ _) hx)).set_ k _ h2, ?_, fun j hj e => ?_, fun j hj hkj => ?_⟩
 ·have hW : (18446744073709551616 : Nat) = 2 ^ n * 2 ^ m := by rw [← Nat.pow_add, hnm]
  have e5 : val 18446744073709551616 (us.take (k + 1 + 1)) = val 18446744073709551616 (us.take (k + 1)) + 2 ^ n * (18446744073709551616 ^ k * (us[k + 1] * 2 ^ m)) := by
   rw [val_take_succ _ _ _ hk]
   congr 1
   rw [Nat.pow_succ]
   conv => lhs; rw [show (18446744073709551616 : Nat) ^ k * 18446744073709551616 = 18446744073709551616 ^ k * (2 ^ n * 2 ^ m) from by rw [← hW]]
   rw [Nat.mul_left_comm (2 ^ n), Nat.mul_assoc, Nat.mul_assoc, Nat.mul_comm (2 ^ m)]
  have e6 : 18446744073709551616 ^ k * (us[k + 1] * 2 ^ m) = 18446744073709551616 ^ k * (us[k + 1] * 2 ^ m % 18446744073709551616) + 18446744073709551616 ^ (k + 1) * (us[k + 1] / 2 ^ n) := by
   conv => lhs; rw [e3]
   rw [Nat.mul_add, Nat.pow_succ, Nat.mul_assoc]
  rw [e5, Nat.add_mul_div_left _ _ (Nat.two_pow_pos n), ← h.sum, e6]
  omega
 ·obtain rfl : j = k + 1 := by omega
  rw [List.getElem_set_ne (by omega), List.getElem_set_self]
  exact h3
 ·rw [List.length_set, List.length_set] at hj
  rw [List.getElem_set_ne (by omega), List.getElem_set_ne (by omega)]
  exact h.zero j hj (by omega)
end
end Go.Proofs.YtcjgilagldbjnaaGreatDoor
