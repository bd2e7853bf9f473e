/- The contracts of nat.Sub and shortMul. Conditions: fewer limbs than any slice can have. The contract of nat.Mul. Conditions: at most 2^30 limbs together. Plain numbers and blocks for shifts: a carry and a limb, the value behind limbs that are dropped. No conditions. The contract of shiftWords. Conditions: words; a shift below 64. -/
import Derived.Test.YtcfalkcceanldaaGreatDoorPkPo14
import Derived.Test.YtcfalkcceanldaaGreatDoorPkPo19
import Derived.Test.YtcfalkcceanldaaGreatDoorPkPo20
import Derived.Test.YtcfalkcceanldaaGreatDoorPkPo16
import Derived.Test.YtcfalkcceanldaaGreatDoorPkPo17
namespace Go.Proofs.YtcfalkcceanldaaGreatDoor
section
open Go.RowKit

/-- What Sub answers. -/
def SubOut (w w' : World) (m n : Nat) (e : Ending) : Prop :=
  ∃ zs A' c', e = .returned (.tuple #[.slice A' zs.length c', .int .i64 (if m < n then 10 else 0)]) ∧ Num 4294967296 zs (m - n) ∧ Res w' w.heap.size 28 A' c' (u32s zs) ∧ Below w.heap.size w w'

set_option maxHeartbeats 1600000 in
theorem sub_any (A A2 : Option Addr) (c c2 : Nat) (xs ys : List Nat) (w : World) (B : Nat) (hr : Rd w B A (u32s xs)) (hr2 : Rd w B A2 (u32s ys)) (hB : B ≤ w.heap.size) (hd : Dig 4294967296 xs) (hd2 : Dig 4294967296 ys) (hc : xs.length ≤ c) (hc2 : ys.length ≤ c2) (hm : xs.length ≤ 70368744170000) (hm2 : ys.length ≤ 70368744170000) :
    Calls Tryz.prog 95 #[.slice A xs.length c, .slice A2 ys.length c2] w fun e w' => SubOut w w' (val 4294967296 xs) (val 4294967296 ys) e := by
  have hl1 := trimL_length_le xs
  have hl2 := trimL_length_le ys
  obtain ⟨m, hmv⟩ : ∃ m, m = val 4294967296 xs := ⟨_, rfl⟩
  obtain ⟨n, hnv⟩ : ∃ n, n = val 4294967296 ys := ⟨_, rfl⟩
  have hn1 := Num.of_trim hd
  have hn2 := Num.of_trim hd2
  rw [← hmv] at hn1
  rw [← hnv] at hn2
  rw [← hmv, ← hnv]
  have hrt : Rd w B A (u32s (trimL xs)) := by rw [u32s_trim]; exact hr.take _
  have hrt2 : Rd w B A2 (u32s (trimL ys)) := by rw [u32s_trim]; exact hr2.take _
  obtain ⟨us, hps⟩ : ∃ us, us = trimL xs := ⟨_, rfl⟩
  obtain ⟨vs, hqs⟩ : ∃ vs, vs = trimL ys := ⟨_, rfl⟩
  rw [← hps] at hn1 hrt hl1
  rw [← hqs] at hn2 hrt2 hl2
  have Hps := Lib.hid hps
  have Hqs := Lib.hid hqs
  have Hm : Hid (val 4294967296 us = m) := hn1.2.2
  have Hn : Hid (val 4294967296 vs = n) := hn2.2.2
  have hdu := hn1.1
  have hdv := hn2.1
  have hm' : xs.length ≤ 281474976710656 := by omega
  have hm2' : ys.length ≤ 281474976710656 := by omega
  have hub : us.length ≤ 281474976710656 := by omega
  have hvb : vs.length ≤ 281474976710656 := by omega
  have huc : us.length ≤ c := by omega
  have hvc : vs.length ≤ c2 := by omega
  have hum : us.length ≤ 70368744177664 := by omega
  clear hps hqs hmv hnv
  rcases Nat.lt_or_ge m n with hlt | hge
  · have e1 : cmpN m n = -1 := by simp [cmpN, hlt]
    have He1 := Lib.hid e1
    have Hlt := Lib.hid hlt
    clear e1 hn1 hn2 hlt
    go_enter Tryz.func95, Tryz.ntmps95
    go_wp2_with (first
      | (go_at_call 45; (with_reducible refine (trim_any A c xs _ B hr hc hm').mono ?_); rintro e w' ⟨rfl, rfl⟩; rw [← Hps.out])
      | (go_at_call 45; (with_reducible refine (trim_any A2 c2 ys _ B hr2 hc2 hm2').mono ?_); rintro e w' ⟨rfl, rfl⟩; rw [← Hqs.out])
      | (go_at_call 93; (with_reducible refine (cmp_any A A2 c c2 us vs _ B hrt hrt2 hdu hdv huc hvc hub hvb).mono ?_); rintro e w2 ⟨rfl, nd, rfl⟩; rw [Hm.out, Hn.out, He1.out]))
    go_ret2
    have hlt := Hlt.out
    refine ⟨[], none, 0, by rw [if_pos hlt]; rfl, ?_, Res.none_, (Dr.refl w).step nd |>.below _⟩
    rw [show m - n = 0 from by omega]; exact Num.zero_ _
  · obtain ⟨cv, hcv⟩ : ∃ cv, cv = cmpN m n := ⟨_, rfl⟩
    have hcv0 : decide (cv < 0) = false := by
      rw [hcv]; unfold cmpN
      rw [if_neg (by omega)]
      split <;> decide
    have Hcv := Lib.hid hcv
    have hle : val 4294967296 vs ≤ val 4294967296 us := by rw [Hm.out, Hn.out]; exact hge
    have hll : vs.length ≤ us.length := by
      rcases Nat.lt_or_ge us.length vs.length with h | h
      · have := val_lt_len (by omega) hn1 hn2 h; omega
      · exact h
    have Hle := Lib.hid hle
    have Hge := Lib.hid hge
    clear hcv hle hge hn1 hn2
    have hmk := fun W => mk32 us.length hum W
    go_enter Tryz.func95, Tryz.ntmps95
    go_wp2_with (first
      | (go_at_call 45; (with_reducible refine (trim_any A c xs _ B hr hc hm').mono ?_); rintro e w' ⟨rfl, rfl⟩; rw [← Hps.out])
      | (go_at_call 45; (with_reducible refine (trim_any A2 c2 ys _ B hr2 hc2 hm2').mono ?_); rintro e w' ⟨rfl, rfl⟩; rw [← Hqs.out])
      | (go_at_call 93; (with_reducible refine (cmp_any A A2 c c2 us vs _ B hrt hrt2 hdu hdv huc hvc hub hvb).mono ?_); rintro e w2 ⟨rfl, nd, rfl⟩; rw [Hm.out, Hn.out, ← Hcv.out])
      | (go_at_call 107; (with_reducible refine (subtracter_any _).mono ?_); rintro e w1 ⟨rfl, hbc, hsz, hbel⟩))
    have hbc : Blk w1 (w.heap.size + 1) 54 [.int .u64 ((0 : Nat) : Int)] := by rw [szA] at hbc; exact hbc
    have hblk0 : Blk w1 w.heap.size 28 (u32s (List.replicate us.length 0)) := by
      have h0 : Blk ((w.drewN nd).alloc (.cells (Array.replicate us.length (Value.int .u32 0)) 28)) w.heap.size 28 (u32s (List.replicate us.length 0)) := Blk.new_ (w := w.drewN nd) (by simp [u32s])
      exact h0.below hbel (by rw [szA]; exact Nat.lt_succ_self _)
    have hbel1 : Below w.heap.size w w1 := ((Dr.refl w).step nd |>.below _).trans (((Below.refl _ _).alloc (Nat.le_refl _) _).trans (hbel.mono (by rw [szA]; exact Nat.le_succ _)))
    clear hbel hsz hr hr2
    go_loopw [8, 9, 25] (fun _ _ i wr => ∃ (k cc : Nat) (zs : List Nat), k ≤ vs.length ∧ i = .int .i64 k ∧ Blk wr w.heap.size 28 (u32s zs) ∧ Blk wr (w.heap.size + 1) 54 [.int .u64 (cc : Int)] ∧ Subbed us vs k zs cc ∧ Below w.heap.size w wr) (fun _ _ i _ => vs.length - (intOf i).toNat)
    case atStart => exact ⟨0, 0, _, by omega, rfl, hblk0, hbc, Subbed.start _ _, hbel1⟩
    case round =>
      clear hblk0 hbc hbel1
      obtain ⟨k, cc, zs, hk, rfl, hblk, hbc, hsu, hbel⟩ := hrel
      have hcc := hsu.2.1
      by_cases hlt : k < vs.length
      · have hku : k < us.length := by omega
        obtain ⟨b, off, rfl, hb, hx⟩ := hrt.at32 hku
        obtain ⟨b2, off2, rfl, hb2, hy⟩ := hrt2.at32 hlt
        have hx := (hbel.cell (p := ⟨b, off + k, none⟩) (show b < _ by omega)).trans hx
        have hy := (hbel.cell (p := ⟨b2, off2 + k, none⟩) (show b2 < _ by omega)).trans hy
        have hxd := hdu.at_ k hku
        have hyd := hdv.at_ k hlt
        have hz1 : k < zs.length := by rw [hsu.2.2.2.2]; exact hku
        go_wp2_with (go_at_call 111; (with_reducible refine (subtracter1_any _ _ cc _ _ hxd hyd hcc hbc).mono ?_); rintro e w2 ⟨rfl, hg2, hch⟩; have hq2 := hblk.ch hch (by omega); have hc2 := (hq2.cell k).trans (u32s_at hz1); have hf2 := hq2.frozen k)
        go_roundw
        case rel =>
          have h9 := hsu.step hz1 hdu hdv
          rw [at0_in hku, at0_in hlt] at h9
          refine ⟨k + 1, 1 - (4294967296 + us[k] - vs[k] - cc) / 4294967296, zs.set k ((4294967296 + us[k] - vs[k] - cc) % 4294967296), by omega, by go_num, ?_, hg2.far (p := ⟨w.heap.size, k, none⟩) (by simp) _, h9, (hbel.trans (hch.below (by omega))).setCell (p := ⟨w.heap.size, k, none⟩) (Nat.le_refl _) _⟩
          have hb2 := hq2.set_ k (Value.int IntKind.u32 (((4294967296 + us[k] - vs[k] - cc) % 4294967296 : Nat) : Int))
          rw [u32s_set] at hb2
          exact hb2
        case measure => simp [intOf]; omega
      · obtain rfl : k = vs.length := by omega
        go_wp2_with fail
        go_loopw [10] (fun i wr => ∃ (k cc : Nat) (zs : List Nat), vs.length ≤ k ∧ k ≤ us.length ∧ i = .int .i64 k ∧ Blk wr w.heap.size 28 (u32s zs) ∧ Blk wr (w.heap.size + 1) 54 [.int .u64 (cc : Int)] ∧ Subbed us vs k zs cc ∧ Below w.heap.size w wr) (fun i _ => us.length - (intOf i).toNat)
        case atStart => exact ⟨vs.length, cc, zs, by omega, hll, rfl, hblk, hbc, hsu, hbel⟩
        case round =>
          clear hblk hbc hsu hbel hcc
          obtain ⟨k, cc, zs, hkv, hk, rfl, hblk, hbc, hsu, hbel⟩ := hrel
          have hcc := hsu.2.1
          by_cases hlt : k < us.length
          · obtain ⟨b, off, rfl, hb, hx⟩ := hrt.at32 hlt
            have hx := (hbel.cell (p := ⟨b, off + k, none⟩) (show b < _ by omega)).trans hx
            have hxd := hdu.at_ k hlt
            have hz1 : k < zs.length := by rw [hsu.2.2.2.2]; exact hlt
            go_wp2_with fail
            refine (subtracter1_any us[k] 0 cc _ _ hxd (by omega) hcc hbc).mono ?_
            rintro e w2 ⟨rfl, hg2, hch⟩
            have hq2 := hblk.ch hch (by omega)
            have hc2 := (hq2.cell k).trans (u32s_at hz1)
            have hf2 := hq2.frozen k
            go_wp2_with fail
            go_roundw
            case rel =>
              have h9 := hsu.step hz1 hdu hdv
              rw [at0_in hlt, at0_out hkv] at h9
              refine ⟨k + 1, 1 - (4294967296 + us[k] - 0 - cc) / 4294967296, zs.set k ((4294967296 + us[k] - 0 - cc) % 4294967296), by omega, by omega, by go_num, ?_, hg2.far (p := ⟨w.heap.size, k, none⟩) (by simp) _, h9, (hbel.trans (hch.below (by omega))).setCell (p := ⟨w.heap.size, k, none⟩) (Nat.le_refl _) _⟩
              have hb2 := hq2.set_ k (Value.int IntKind.u32 (((4294967296 + us[k] - 0 - cc) % 4294967296 : Nat) : Int))
              rw [u32s_set] at hb2
              exact hb2
            case measure => simp [intOf]; omega
          · obtain rfl : k = us.length := by omega
            have hl2 : Hid (zs.length = us.length) := hsu.2.2.2.2
            have hm2 : zs.length ≤ 281474976710656 := by have := hl2.out; omega
            have Hlv : Hid (val 4294967296 zs = m - n) := by
              have := hsu.last hdu hdv Hle.out
              rw [Hm.out, Hn.out] at this
              exact this
            have hrd := (Res.of_blk0 hblk (Nat.le_refl _) (by rw [u32s_length]; omega)).rd
            go_wp2_with (go_at_call 45; rw [← hl2.out]; refine (trim_any _ _ zs _ _ hrd (Nat.le_refl _) hm2).mono ?_; rintro e w3 ⟨rfl, rfl⟩)
            go_ret2
            have hge := Hge.out
            refine ⟨trimL zs, _, _, by rw [if_neg (by omega)]; rfl, ?_, ?_, hbel⟩
            · have hz := Num.of_trim hsu.1
              rw [Hlv.out] at hz
              exact hz
            · have h3 := (Res.of_blk0 hblk (Nat.le_refl _) (by rw [u32s_length]; omega)).take (trimL zs).length
              rw [← u32s_trim, u32s_length] at h3
              exact h3

theorem mul_T {b : Nat} {us : List Nat} {k v : Nat} (hu : k < us.length) : val b (us.take k) * v + b ^ k * (us[k] * v) = val b (us.take (k + 1)) * v := by
  rw [val_take_succ b us k hu, Nat.add_mul, Nat.mul_assoc]
theorem carry_mul {c x v : Nat} {B : Nat} (hc : c < B) (hx : x < B) (hv : v < B) : (c + x * v) / B < B := by
  rw [Nat.div_lt_iff_lt_mul (by omega)]
  have h1 : x * v ≤ (B - 1) * (B - 1) := Nat.mul_le_mul (by omega) (by omega)
  obtain ⟨q, rfl⟩ : ∃ q, B = q + 1 := ⟨B - 1, by omega⟩
  have h2 : (q + 1) * (q + 1) = q * q + q + q + 1 := by rw [Nat.add_mul, Nat.mul_add]; omega
  rw [h2]
  simp only [Nat.add_sub_cancel] at h1
  omega

end
section
open Go.RowKit

theorem num_eq {b m n : Nat} {zs : List Nat} (h : Num b zs m) (e : m = n) : Num b zs n := e ▸ h

end
section
open Go.RowKit

theorem blk_two {w : World} {o : Obj} {t : TypeId} {cs : Array Value} {vs : List Value} (e : cs = vs.toArray) : Blk ((w.alloc o).alloc (.cells cs t (0, 0))) (w.heap.size + 1) t vs := by
  have := Blk.new_ (w := w.alloc o) (t := t) e
  simpa using this

theorem shift_or (c x n : Nat) (hn : n < 32) (hc : c < 2 ^ n) (hx : x < 4294967296) : bits BinOp.or IntKind.u64 (c : Int) (IntKind.u64.wrap ((x : Int) * 2 ^ n)) = ((c + 2 ^ n * x : Nat) : Int) ∧ c + 2 ^ n * x < 9223372036854775808 := by
  have h2 : 2 ^ n ≤ 2147483648 := by
    have : 2 ^ n ≤ 2 ^ 31 := Nat.pow_le_pow_right (by omega) (by omega)
    omega
  have h3 : 2 ^ n * x ≤ 2147483648 * x := Nat.mul_le_mul_right _ h2
  have e1 : IntKind.u64.wrap ((x : Int) * 2 ^ n) = ((x * 2 ^ n : Nat) : Int) := by
    rw [IntKind.wrap_u64, show ((x : Int) * 2 ^ n) = ((x * 2 ^ n : Nat) : Int) from by simp]
    rw [Nat.mul_comm] at h3
    omega
  refine ⟨?_, by omega⟩
  rw [e1, u64_or_nat c (x * 2 ^ n) (by omega) (by rw [Nat.mul_comm]; omega), Nat.or_comm, or_shift c x n hc]

theorem size_alloc (w : World) (o : Obj) : (w.alloc o).heap.size = w.heap.size + 1 := by simp

theorem val_drop {b : Nat} (hb : 0 < b) (xs : List Nat) (d : Nat) (hd : Dig b xs) : val b (xs.drop d) = val b xs / b ^ d := by
  induction d generalizing xs with
  | zero => simp
  | succ d ih =>
    cases xs with
    | nil => simp [val]
    | cons x xs =>
      rw [List.drop_succ_cons, ih xs hd.tail_]
      simp only [val]
      rw [Nat.pow_succ, Nat.mul_comm (b ^ d) b, ← Nat.div_div_eq_div_mul, Nat.add_mul_div_left _ _ hb, Nat.div_eq_of_lt hd.head_, Nat.zero_add]

/-- One limb of a number over 2^s. -/
theorem drop_limb (x V s : Nat) (hx : x < 4294967296) (hs : s < 32) : (x + 4294967296 * V) / 2 ^ s = (V % 4294967296 * 4294967296 + x) / 2 ^ s % 4294967296 + 4294967296 * (V / 2 ^ s) := by
  have hp : 0 < 2 ^ s := Nat.two_pow_pos s
  have e32 : (4294967296 : Nat) = 2 ^ s * 2 ^ (32 - s) := by rw [← Nat.pow_add, show s + (32 - s) = 32 from by omega]
  have h1 : (x + 4294967296 * V) / 2 ^ s / 4294967296 = V / 2 ^ s := by
    rw [Nat.div_div_eq_div_mul, Nat.mul_comm (2 ^ s), ← Nat.div_div_eq_div_mul, Nat.add_mul_div_left _ _ (by omega), Nat.div_eq_of_lt hx, Nat.zero_add]
  have h2 : (x + 4294967296 * V) / 2 ^ s % 4294967296 = (V % 4294967296 * 4294967296 + x) / 2 ^ s % 4294967296 := by
    have hV := Nat.mod_add_div V 4294967296
    have e : x + 4294967296 * V = (V % 4294967296 * 4294967296 + x) + 2 ^ s * (4294967296 * (2 ^ (32 - s) * (V / 4294967296))) := by
      have : 2 ^ s * (4294967296 * (2 ^ (32 - s) * (V / 4294967296))) = 4294967296 * (4294967296 * (V / 4294967296)) := by
        rw [← Nat.mul_assoc, Nat.mul_comm (2 ^ s), Nat.mul_assoc, ← Nat.mul_assoc (2 ^ s), ← e32]
      rw [this]
      generalize V / 4294967296 = q at *
      generalize V % 4294967296 = r at *
      omega
    rw [e, Nat.add_mul_div_left _ _ hp, Nat.add_mul_mod_self_left]
  have := Nat.mod_add_div ((x + 4294967296 * V) / 2 ^ s) 4294967296
  rw [h1, h2] at this
  exact this.symm
end
section
open Go.RowKit

theorem shl_split (x n m : Nat) (hnm : n + m = 64) : x * 2 ^ n = x * 2 ^ n % 18446744073709551616 + 18446744073709551616 * (x / 2 ^ m) ∧ x * 2 ^ n % 18446744073709551616 = x % 2 ^ m * 2 ^ n := by
  have hW : (18446744073709551616 : Nat) = 2 ^ m * 2 ^ n := by rw [← Nat.pow_add, Nat.add_comm, hnm]
  have h1 : x * 2 ^ n / 18446744073709551616 = x / 2 ^ m := by rw [hW, Nat.mul_div_mul_right _ _ (Nat.two_pow_pos n)]
  have h2 := Nat.div_add_mod (x * 2 ^ n) 18446744073709551616
  rw [h1] at h2
  exact ⟨by omega, by rw [hW, Nat.mul_mod_mul_right]⟩
theorem wrap_shl (x n : Nat) : IntKind.u64.wrap ((x : Int) * 2 ^ n) = ((x * 2 ^ n % 18446744073709551616 : Nat) : Int) := by
  rw [IntKind.wrap_u64, show ((x : Int) * 2 ^ n) = ((x * 2 ^ n : Nat) : Int) from by simp]
  omega
theorem shl_or (y x n m : Nat) (hnm : n + m = 64) (hy : y < 2 ^ n) (hyW : y < 18446744073709551616) : bits BinOp.or IntKind.u64 (y : Int) (IntKind.u64.wrap ((x : Int) * 2 ^ n)) = ((y + x * 2 ^ n % 18446744073709551616 : Nat) : Int) := by
  have h2 := (shl_split x n m hnm).2
  rw [wrap_shl, u64_or_nat y _ hyW (by omega), Nat.or_comm, h2, or_shift y (x % 2 ^ m) n hy, Nat.mul_comm (2 ^ n)]
theorem shr_lt {x n m : Nat} (hnm : n + m = 64) (hx : x < 18446744073709551616) : x / 2 ^ m < 2 ^ n := by
  refine (Nat.div_lt_iff_lt_mul (Nat.two_pow_pos m)).2 ?_
  rw [← Nat.pow_add, hnm]
  exact hx
theorem lo_lt {y x n m : Nat} (hnm : n + m = 64) (hy : y < 2 ^ n) : y + x * 2 ^ n % 18446744073709551616 < 18446744073709551616 := by
  have h2 := (shl_split x n m hnm).2
  have hW : (18446744073709551616 : Nat) = 2 ^ m * 2 ^ n := by rw [← Nat.pow_add, Nat.add_comm, hnm]
  have h3 : (x % 2 ^ m + 1) * 2 ^ n ≤ 2 ^ m * 2 ^ n := Nat.mul_le_mul_right _ (Nat.mod_lt _ (Nat.two_pow_pos m))
  rw [Nat.add_mul, ← h2, ← hW] at h3
  omega

theorem shr_nat2 (x t : Nat) : (x : Int) / 2 ^ t = ((x / 2 ^ t : Nat) : Int) := by rw [Int.natCast_ediv, Int.natCast_pow]; rfl
/-- Between two words of shiftWords. -/
structure Up (us : List Nat) (n k : Nat) (zs : List Nat) : Prop where
  len : zs.length = us.length + 1
  dig : Dig 18446744073709551616 zs
  sum : val 18446744073709551616 zs = val 18446744073709551616 (us.take k) * 2 ^ n
  low : ∀ h : k < zs.length, zs[k] < 2 ^ n
  zero : ∀ j (h : j < zs.length), k < j → zs[j] = 0
theorem Up.start (us : List Nat) (n : Nat) : Up us n 0 (List.replicate (us.length + 1) 0) := by
  refine ⟨by simp, Dig.zeros_ (by omega) _, by rw [val_zeros]; simp [val], fun h => ?_, fun j h _ => by simp⟩
  rw [List.getElem_replicate]
  exact Nat.two_pow_pos n
theorem Up.step {us zs : List Nat} {n m k : Nat} (h : Up us n k zs) (hnm : n + m = 64) (hk : k < us.length) (hz : k < zs.length) (hx : us[k] < 18446744073709551616) :
    Up us n (k + 1) ((zs.set k (zs[k] + us[k] * 2 ^ n % 18446744073709551616)).set (k + 1) (us[k] / 2 ^ m)) := by
  have h1 := h.low hz
  have h2 := lo_lt (x := us[k]) hnm h1
  have h3 := shr_lt hnm hx
  have hl := h.len
  have hk1 : k + 1 < zs.length := by omega
  have hl2 : (zs.set k (zs[k] + us[k] * 2 ^ n % 18446744073709551616)).length = zs.length := List.length_set
  have e1 := val_set 18446744073709551616 zs k (zs[k] + us[k] * 2 ^ n % 18446744073709551616) hz
  have e2 := val_set 18446744073709551616 (zs.set k (zs[k] + us[k] * 2 ^ n % 18446744073709551616)) (k + 1) (us[k] / 2 ^ m) (by omega)
  rw [List.getElem_set_ne (by omega), h.zero (k + 1) hk1 (by omega), Nat.mul_zero, Nat.add_zero] at e2
  have e3 := (shl_split us[k] n m hnm).1
  refine ⟨by rw [List.length_set, List.length_set]; exact hl, (h.dig.set_ k _ h2).set_ (k + 1) _ (Nat.lt_of_le_of_lt (Nat.div_le_self _ _) hx), ?_, fun hh => ?_, fun j hj hkj => ?_⟩
  · rw [e2, val_take_succ _ _ _ hk, Nat.add_mul, ← h.sum]
    rw [Nat.mul_add] at e1
    have e4 : 18446744073709551616 ^ k * us[k] * 2 ^ n = 18446744073709551616 ^ k * (us[k] * 2 ^ n % 18446744073709551616) + 18446744073709551616 ^ (k + 1) * (us[k] / 2 ^ m) := by
      rw [Nat.mul_assoc]
      conv => lhs; rw [e3]
      rw [Nat.mul_add, Nat.pow_succ, Nat.mul_assoc]
    omega
  · rw [List.getElem_set_self]; exact h3
  · rw [List.length_set, List.length_set] at hj
    rw [List.getElem_set_ne (by omega), List.getElem_set_ne (by omega)]
    exact h.zero j hj (by omega)

set_option maxRecDepth 20000 in
set_option maxHeartbeats 1600000 in
theorem shiftWords_any (A : Option Addr) (c n : Nat) (us : List Nat) (w : World) (B : Nat) (hr : Rd w B A (u64s us)) (hB : B ≤ w.heap.size) (hd : Dig 18446744073709551616 us) (hm : us.length ≤ 35184372088000) (hn : n < 64) :
    Calls Tryz.prog 87 #[.slice A us.length c, .int .u64 (n : Int)] w fun e w' => Words w w' (us.length + 1) (val 18446744073709551616 us * 2 ^ n) e := by
  have hmk : ∀ W : World, (Instr.makeSlice 77 (.int .i64 ((us.length : Int) + 1)) (.int .i64 ((us.length : Int) + 1))).run Tryz.prog W = .ok (.slice (some ⟨W.heap.size, 0, none⟩) (us.length + 1) (us.length + 1)) (W.alloc (.cells (List.replicate (us.length + 1) (Value.int .u64 0)).toArray 54)) := fun W => by
    have := mk64 (us.length + 1) (by omega) W
    rwa [show ((us.length + 1 : Nat) : Int) = (us.length : Int) + 1 from by omega] at this
  obtain ⟨m, hmn⟩ : ∃ m, m = 64 - n := ⟨_, rfl⟩
  have hnm : n + m = 64 := by omega
  have hm64 : m ≤ 64 := by omega
  have e64 : (64 : Int) - (n : Int) = (m : Int) := by omega
  have e64w : IntKind.u64.wrap ((64 : Int) - (n : Int)) = (m : Int) := by rw [IntKind.wrap_u64]; omega
  have Hrep : Hid (∀ k : Nat, (List.replicate k (Value.int .u64 0)).toArray = (u64s (List.replicate k 0)).toArray) := fun k => by simp [u64s]
  clear hmn
  go_enter Tryz.func87, Tryz.ntmps87
  go_wp2_with fail
  go_loopw [6, 7, 14] (fun _ _ i wr => ∃ (k : Nat) (zs : List Nat), k ≤ us.length ∧ i = .int .i64 (k : Int) ∧ Hid (Up us n k zs) ∧ Blk wr w.heap.size 54 (u64s zs) ∧ Below w.heap.size w wr) (fun _ _ i _ => us.length - (intOf i).toNat)
  case atStart => exact ⟨0, List.replicate (us.length + 1) 0, by omega, rfl, Up.start us n, Blk.new_ (Hrep.out _), (Below.refl _ _).alloc (Nat.le_refl _) _⟩
  case round =>
    obtain ⟨k, zs, hk, rfl, hup, hblk, hbel⟩ := hrel
    have hzl := hup.out.len
    by_cases hlt : k < us.length
    · obtain ⟨b, off, rfl, hb, hx⟩ := hr.at64 hlt
      have hx := (hbel.cell (p := ⟨b, off + k, none⟩) (show b < _ by omega)).trans hx
      have hxd := hd.at_ k hlt
      have hz : k < zs.length := by omega
      have hlow := hup.out.low hz
      have hstep := Lib.hid (hup.out.step hnm hlt hz hxd)
      have hyd := hup.out.dig.at_ k hz
      have hor := shl_or zs[k] us[k] n m hnm hlow hyd
      have hlo := lo_lt (x := us[k]) hnm hlow
      have hsr := shr_nat2 us[k] m
      have c1 := hblk.cell k
      rw [u64s_at hz] at c1
      have f1 := hblk.frozen k
      have f2 := hblk.frozen (k + 1)
      have c2 := hblk.cell (k + 1)
      rw [u64s_at (by omega)] at c2
      obtain ⟨y, hy⟩ : ∃ y, y = zs[k] := ⟨_, rfl⟩
      obtain ⟨y2, hy2⟩ : ∃ y2, y2 = zs[k + 1] := ⟨_, rfl⟩
      obtain ⟨x, hxe⟩ : ∃ x, x = us[k] := ⟨_, rfl⟩
      rw [← hy, ← hxe] at hor hstep
      rw [← hy] at c1 hyd hlo
      rw [← hy2] at c2
      rw [← hxe] at hx hxd hsr hlo
      obtain ⟨s, hs⟩ := nameIt (y + x * 2 ^ n % 18446744073709551616)
      obtain ⟨t, ht⟩ := nameIt (x / 2 ^ m)
      rw [← hs] at hor hstep hlo
      rw [← ht] at hsr hstep
      have htx : t < 18446744073709551616 := by rw [ht]; exact Nat.lt_of_le_of_lt (Nat.div_le_self _ _) hxd
      have hset := (hblk.set_ k (.int .u64 (s : Int))).set_ (k + 1) (.int .u64 (t : Int))
      rw [u64s_set, u64s_set] at hset
      have Hset := Lib.hid hset
      have Hbel := Lib.hid ((hbel.setCell (p := ⟨w.heap.size, k, none⟩) (Nat.le_refl _) (.int .u64 (s : Int))).setCell (p := ⟨w.heap.size, k + 1, none⟩) (Nat.le_refl _) (.int .u64 (t : Int)))
      have hbne : b ≠ w.heap.size := by omega
      clear hset hy hy2 hxe hs ht hlow hup hbel hmk
      go_wp2_with (first | (simp only [hor]) | (simp only [e64w]) | (simp only [e64]) | (simp only [hsr]))
      go_roundw
      case rel => exact ⟨k + 1, _, by omega, by go_num, hstep, Hset.out, Hbel.out⟩
      case measure => simp [intOf]; omega
    · obtain rfl : k = us.length := by omega
      have hsum := hup.out.sum
      rw [List.take_length] at hsum
      have Hsum := Lib.hid hsum
      clear hsum hmk
      go_wp2_with fail
      go_ret
      exact ⟨zs, w.heap.size, by rw [hzl]; rfl, hzl, hup.out.dig, Hsum.out, Nat.le_refl _, hblk, hbel⟩
end
end Go.Proofs.YtcfalkcceanldaaGreatDoor
