/- The contract of carried. Conditions: the number fits in the places. -/
import Derived.Test.YtogkfpbapjjgfaaTrans1
import Derived.Test.YtogkfpbapjjgfaaHalves
namespace Go.Proofs.Ytogkfpbapjjgfaa
open Go.RowKit

/-- What carried's row and carry are behind k digits. -/
def Carr (zl : List Nat) (n k : Nat) (os : List Nat) (c : Nat) : Prop :=
  os.length = n ∧ Dig 18446744073709551616 os ∧ c < 562949953421312 ∧ val 18446744073709551616 os + 65536 ^ k * c = val 65536 (zl.take k) ∧ (∀ j (h : j < os.length), k ≤ 4 * j → os[j] = 0) ∧ ∀ j r (h : j < os.length), k = 4 * j + r → r < 4 → os[j] < 65536 ^ r
theorem Carr.start (zl : List Nat) (n : Nat) : Carr zl n 0 (List.replicate n 0) 0 :=
  ⟨by simp, Dig.zeros_ (by omega) _, by omega, by simp [val_zeros, val], fun j h _ => by simp, fun j r h e hr => by
    simp; exact Nat.pow_pos (by omega)⟩
theorem pow16 (b q j r : Nat) (h : q = b ^ 4) : b ^ (4 * j + r) = q ^ j * b ^ r := by
  rw [Nat.pow_add, Nat.pow_mul, h]
theorem carr_val {b W V X j r k c z d c' : Nat} (hW : W = b ^ 4) (hk : k = 4 * j + r) (h : V + b ^ k * c = X) (hs : c + z = d + b * c') : V + W ^ j * (b ^ r * d) + b ^ (k + 1) * c' = X + b ^ k * z := by
  have e1 : b ^ k * c + b ^ k * z = b ^ k * d + b ^ k * (b * c') := by rw [← Nat.mul_add, hs, Nat.mul_add]
  have e2 : W ^ j * (b ^ r * d) = b ^ k * d := by rw [← Nat.mul_assoc, ← pow16 b W j r hW, ← hk]
  rw [e2, Nat.pow_succ, Nat.mul_assoc]
  generalize b ^ k * (b * c') = t1 at *
  generalize b ^ k * d = t2 at *
  generalize b ^ k * z = t3 at *
  generalize b ^ k * c = t4 at *
  omega
theorem carr_fit {b r x d : Nat} (_ : 0 < b) (hx : x < b ^ r) (hd : d < b) : x + b ^ r * d < b ^ (r + 1) := by
  rw [Nat.pow_succ]
  have : b ^ r * (d + 1) ≤ b ^ r * b := Nat.mul_le_mul_left _ hd
  rw [Nat.mul_add] at this
  omega
theorem pow_mono_lt {b x r : Nat} (hb : 0 < b) (hr : r < 4) (h : x < b ^ (r + 1)) (W : Nat) (hW : W = b ^ 4) : x < W := by
  rw [hW]; exact Nat.lt_of_lt_of_le h (Nat.pow_le_pow_right hb (by omega))
theorem Carr.step {zl os : List Nat} {n j r c d c' : Nat} (h : Carr zl n (4 * j + r) os c) (hr : r < 4) (hk : 4 * j + r < zl.length) (hj : j < os.length) (_ : zl[4 * j + r] < 18446744073709551616) (hs : c + zl[4 * j + r] = d + 65536 * c') (hd : d < 65536) (hc : c' < 562949953421312) :
    Carr zl n (4 * j + r + 1) (os.set j (os[j] + 65536 ^ r * d)) c' := by
  obtain ⟨h1, h2, h3, h4, h5, h6⟩ := h
  have hx := h6 j r hj rfl hr
  have hf := carr_fit (by omega) hx hd
  have hW := pow_mono_lt (by omega) hr hf 18446744073709551616 (by decide)
  refine ⟨by simpa using h1, h2.set_ _ _ hW, hc, ?_, fun i hi hki => ?_, fun i q hi e hq => ?_⟩
  · have e1 := val_set 18446744073709551616 os j (os[j] + 65536 ^ r * d) hj
    rw [Nat.mul_add] at e1
    have e2 : val 18446744073709551616 (os.set j (os[j] + 65536 ^ r * d)) = val 18446744073709551616 os + 18446744073709551616 ^ j * (65536 ^ r * d) := by
      generalize 18446744073709551616 ^ j * (65536 ^ r * d) = t1 at *
      generalize 18446744073709551616 ^ j * os[j] = t2 at *
      omega
    rw [e2, val_take_succ _ zl _ hk]
    exact carr_val (by decide) rfl h4 hs
  · rw [List.getElem_set, if_neg (by omega)]
    exact h5 i (by simpa using hi) (by omega)
  · rw [List.getElem_set]
    split
    · obtain rfl : q = r + 1 := by omega
      exact hf
    · have hi2 : i < os.length := by simpa using hi
      have : os[i] = 0 := h5 i hi2 (by omega)
      rw [this]; exact Nat.pow_pos (by omega)
theorem Carr.finish {zl os : List Nat} {n c : Nat} (h : Carr zl n (4 * n) os c) (hl : zl.length = 4 * n) (hT : val 65536 zl < 18446744073709551616 ^ n) : val 18446744073709551616 os = val 65536 zl := by
  have h4 := h.2.2.2.1
  rw [List.take_of_length_le (by omega), Nat.pow_mul, show (65536 : Nat) ^ 4 = 18446744073709551616 from rfl] at h4
  exact carry_zero2 h4 hT

theorem or_add (x d i : Nat) (hx : x < 2 ^ i) (hb : x < 18446744073709551616) (hd : d * 2 ^ i < 18446744073709551616) : bits BinOp.or IntKind.u64 (x : Int) ((d * 2 ^ i : Nat) : Int) = ((x + 2 ^ i * d : Nat) : Int) := by
  rw [u64_or_nat x (d * 2 ^ i) hb hd, Nat.or_comm, or_shift x d i hx]

set_option maxHeartbeats 3200000 in
theorem carried_any (A : Option Addr) (c : Nat) (xs zl : List Nat) (sc n : Nat) (w : World) (B : Nat) (hr : Rd w B A (u64s xs)) (hB : B ≤ w.heap.size) (hd : Dig 18446744073709551616 xs) (hsc : sc < 18446744073709551616) (hn : 4 * n ≤ xs.length) (hzl : zl.length = 4 * n) (hz : ∀ i (h : i < xs.length) (h2 : i < zl.length), xs[i] * sc % 18446744069414584321 = zl[i]) (hT : val 65536 zl < 18446744073709551616 ^ n) (hm : n ≤ 35184372088832) :
    Calls Try.prog 74 #[.slice A xs.length c, .int .u64 (sc : Int), .int .i64 (n : Int)] w fun e w' => Words w w' n (val 65536 zl) e := by
  have hmk := fun W => mk64 n hm W
  have Hz := Lib.hid hz
  have Hzl := Lib.hid hzl
  have HT := Lib.hid hT
  clear hz hzl hT
  go_enter Try.func74, Try.ntmps74
  go_wp2_with fail
  go_loopw [8, 9, 10, 15] (fun cv _ _ i wr => ∃ (k cc : Nat) (os : List Nat), k ≤ 4 * n ∧ i = .int .i64 k ∧ cv = .int .u64 cc ∧ Blk wr w.heap.size 44 (u64s os) ∧ Carr zl n k os cc ∧ Below w.heap.size w wr) (fun _ _ _ i _ => 4 * n - (intOf i).toNat)
  case atStart => exact ⟨0, 0, List.replicate n 0, by omega, rfl, rfl, Blk.new_ (by simp [u64s]), Carr.start _ _, (Below.refl _ _).alloc (Nat.le_refl _) _⟩
  case round =>
    obtain ⟨k, cc, os, hk, rfl, rfl, hblk, hca, hbel⟩ := hrel
    by_cases hlt : k < 4 * n
    · obtain ⟨b, off, rfl, hb, hx⟩ := hr.at64 (k := k) (by omega)
      have hx := (hbel.cell (p := ⟨b, off + k, none⟩) (show b < _ by omega)).trans hx
      have hkx : k < xs.length := by omega
      have hkz : k < zl.length := by rw [Hzl.out]; exact hlt
      have hxd := hd.at_ k hkx
      have hzk := Hz.out k hkx hkz
      have hfm := fun W => fieldMul_any xs[k] sc hxd hsc W
      rw [hzk] at hfm
      have hzb : zl[k] < 18446744069414584321 := by rw [← hzk]; exact Nat.mod_lt _ (by omega)
      have hzlb : zl[k] < 18446744073709551616 := by omega
      have hccb := hca.2.2.1
      obtain ⟨z, hze⟩ : ∃ z, z = zl[k] := ⟨_, rfl⟩
      rw [← hze] at hfm hzb
      have a1 := fun W => add64_run0 cc z W
      obtain ⟨lo, hlo⟩ := nameIt ((cc + z) % 18446744073709551616)
      obtain ⟨ov, hov⟩ := nameIt ((cc + z) / 18446744073709551616)
      rw [← hlo, ← hov] at a1
      have hlob : lo < 18446744073709551616 := by omega
      have hovb : ov ≤ 1 := by omega
      have m1 := and_mask lo hlob
      obtain ⟨d, hdd⟩ := nameIt (lo % 65536)
      rw [← hdd] at m1
      have hdb : d < 65536 := by omega
      obtain ⟨y, hy⟩ := nameIt (lo / 65536)
      have m2 : (lo : Int) / 65536 = (y : Int) := by omega
      have hyb : y < 281474976710656 := by omega
      obtain ⟨c2, hc2⟩ := nameIt (y + 281474976710656 * ov)
      have m3 : bits BinOp.or IntKind.u64 (y : Int) ((ov : Int) * 281474976710656) = (c2 : Int) := by
        have h9 := or_add y ov 48 (by omega) (by omega) (by omega)
        rw [show (2 : Nat) ^ 48 = 281474976710656 from rfl, ← hc2] at h9
        exact h9
      have hc2b : c2 < 562949953421312 := by omega
      have hsum : cc + z = d + 65536 * c2 := by omega
      have m2w : bits BinOp.or IntKind.u64 ((lo : Int) / 65536) ((ov : Int) * 281474976710656) = (c2 : Int) := by rw [m2]; exact m3
      rw [hze] at hsum
      have Hfm := Lib.hid hfm
      have Hsum := Lib.hid hsum
      have m4 : (lo : Int) % 65536 = (d : Int) := by omega
      clear hzk hfm hze hlo hov hdd hy hc2 hsum
      have hol := hca.1
      obtain ⟨j, hj⟩ : ∃ j, k = 4 * j ∨ k = 4 * j + 1 ∨ k = 4 * j + 2 ∨ k = 4 * j + 3 := ⟨k / 4, by omega⟩
      rcases hj with rfl | rfl | rfl | rfl
      · have q1 : (4 * (j : Int)) / 4 = (j : Int) := by omega
        have q2 : (4 * (j : Int)) % 4 = 0 := by omega
        have q3 : (4 * j) / 4 = j := by omega
        have q4 : (4 * j) % 4 = 0 := by omega
        have q5 : (4 * (j : Int)).tdiv 4 = (j : Int) := by rw [Int.tdiv_eq_ediv_of_nonneg (by omega)]; omega
        have q6 : (4 * (j : Int)).tmod 4 = 0 := by rw [Int.tmod_eq_emod_of_nonneg (by omega)]; omega
        have hjo : j < os.length := by omega
        have hjn : j < n := by omega
        have hoc := (hblk.cell j).trans (u64s_at hjo)
        have hof := hblk.frozen j
        have hob := hca.2.1.at_ j hjo
        have hos := hca.2.2.2.2.2 j 0 hjo rfl (by omega)
        have hst := hca.step (r := 0) (d := d) (c' := c2) (by omega) hkz hjo hzlb Hsum.out hdb hc2b
        rw [show (65536 : Nat) ^ 0 = 1 from rfl] at hos hst
        obtain ⟨v, hv⟩ := nameIt (os[j] + 1 * d)
        rw [← hv] at hst
        have m5 : bits BinOp.or IntKind.u64 (os[j] : Int) ((d : Int)) = (v : Int) := by
          have h9 := or_add os[j] d 0 (by omega) hob (by omega)
          rw [show (2 : Nat) ^ 0 = 1 from rfl, ← hv] at h9
          simpa using h9
        have Hst := Lib.hid hst
        have Hol := Lib.hid hol
        clear hst hv hol hos
        go_wp2_with (first
          | (go_at_call 72; (with_reducible refine (Hfm.out _).mono ?_); rintro e w' ⟨rfl, rfl⟩)
          | (simp only []))
        go_region
        all_goals
          go_wp2_with fail
          go_roundw
          case rel =>
            refine ⟨4 * j + 0 + 1, c2, os.set j v, by omega, by go_num, rfl, ?_, Hst.out, (hbel.setCell (p := ⟨w.heap.size, j, none⟩) (Nat.le_refl _) _).drew⟩
            have hb2 := (hblk.set_ j (Value.int IntKind.u64 (v : Int))).drew
            rw [u64s_set] at hb2
            first | exact hb2 | trace_state
          case measure => simp [intOf]; omega
      · have q1 : (4 * (j : Int) + 1) / 4 = (j : Int) := by omega
        have q2 : (4 * (j : Int) + 1) % 4 = 1 := by omega
        have q3 : (4 * j + 1) / 4 = j := by omega
        have q4 : (4 * j + 1) % 4 = 1 := by omega
        have q5 : (4 * (j : Int) + 1).tdiv 4 = (j : Int) := by rw [Int.tdiv_eq_ediv_of_nonneg (by omega)]; omega
        have q6 : (4 * (j : Int) + 1).tmod 4 = 1 := by rw [Int.tmod_eq_emod_of_nonneg (by omega)]; omega
        have hjo : j < os.length := by omega
        have hjn : j < n := by omega
        have hoc := (hblk.cell j).trans (u64s_at hjo)
        have hof := hblk.frozen j
        have hob := hca.2.1.at_ j hjo
        have hos := hca.2.2.2.2.2 j 1 hjo rfl (by omega)
        have hst := hca.step (r := 1) (d := d) (c' := c2) (by omega) hkz hjo hzlb Hsum.out hdb hc2b
        rw [show (65536 : Nat) ^ 1 = 65536 from rfl] at hos hst
        obtain ⟨v, hv⟩ := nameIt (os[j] + 65536 * d)
        rw [← hv] at hst
        have m5 : bits BinOp.or IntKind.u64 (os[j] : Int) ((d : Int) * 65536) = (v : Int) := by
          have h9 := or_add os[j] d 16 (by omega) hob (by omega)
          rw [show (2 : Nat) ^ 16 = 65536 from rfl, ← hv] at h9
          exact h9
        have Hst := Lib.hid hst
        have Hol := Lib.hid hol
        clear hst hv hol hos
        go_wp2_with (first
          | (go_at_call 72; (with_reducible refine (Hfm.out _).mono ?_); rintro e w' ⟨rfl, rfl⟩)
          | (simp only []))
        go_region
        all_goals
          go_wp2_with fail
          go_roundw
          case rel =>
            refine ⟨4 * j + 1 + 1, c2, os.set j v, by omega, by go_num, rfl, ?_, Hst.out, (hbel.setCell (p := ⟨w.heap.size, j, none⟩) (Nat.le_refl _) _).drew⟩
            have hb2 := (hblk.set_ j (Value.int IntKind.u64 (v : Int))).drew
            rw [u64s_set] at hb2
            first | exact hb2 | trace_state
          case measure => simp [intOf]; omega
      · have q1 : (4 * (j : Int) + 2) / 4 = (j : Int) := by omega
        have q2 : (4 * (j : Int) + 2) % 4 = 2 := by omega
        have q3 : (4 * j + 2) / 4 = j := by omega
        have q4 : (4 * j + 2) % 4 = 2 := by omega
        have q5 : (4 * (j : Int) + 2).tdiv 4 = (j : Int) := by rw [Int.tdiv_eq_ediv_of_nonneg (by omega)]; omega
        have q6 : (4 * (j : Int) + 2).tmod 4 = 2 := by rw [Int.tmod_eq_emod_of_nonneg (by omega)]; omega
        have hjo : j < os.length := by omega
        have hjn : j < n := by omega
        have hoc := (hblk.cell j).trans (u64s_at hjo)
        have hof := hblk.frozen j
        have hob := hca.2.1.at_ j hjo
        have hos := hca.2.2.2.2.2 j 2 hjo rfl (by omega)
        have hst := hca.step (r := 2) (d := d) (c' := c2) (by omega) hkz hjo hzlb Hsum.out hdb hc2b
        rw [show (65536 : Nat) ^ 2 = 4294967296 from rfl] at hos hst
        obtain ⟨v, hv⟩ := nameIt (os[j] + 4294967296 * d)
        rw [← hv] at hst
        have m5 : bits BinOp.or IntKind.u64 (os[j] : Int) ((d : Int) * 4294967296) = (v : Int) := by
          have h9 := or_add os[j] d 32 (by omega) hob (by omega)
          rw [show (2 : Nat) ^ 32 = 4294967296 from rfl, ← hv] at h9
          exact h9
        have Hst := Lib.hid hst
        have Hol := Lib.hid hol
        clear hst hv hol hos
        go_wp2_with (first
          | (go_at_call 72; (with_reducible refine (Hfm.out _).mono ?_); rintro e w' ⟨rfl, rfl⟩)
          | (simp only []))
        go_region
        all_goals
          go_wp2_with fail
          go_roundw
          case rel =>
            refine ⟨4 * j + 2 + 1, c2, os.set j v, by omega, by go_num, rfl, ?_, Hst.out, (hbel.setCell (p := ⟨w.heap.size, j, none⟩) (Nat.le_refl _) _).drew⟩
            have hb2 := (hblk.set_ j (Value.int IntKind.u64 (v : Int))).drew
            rw [u64s_set] at hb2
            first | exact hb2 | trace_state
          case measure => simp [intOf]; omega
      · have q1 : (4 * (j : Int) + 3) / 4 = (j : Int) := by omega
        have q2 : (4 * (j : Int) + 3) % 4 = 3 := by omega
        have q3 : (4 * j + 3) / 4 = j := by omega
        have q4 : (4 * j + 3) % 4 = 3 := by omega
        have q5 : (4 * (j : Int) + 3).tdiv 4 = (j : Int) := by rw [Int.tdiv_eq_ediv_of_nonneg (by omega)]; omega
        have q6 : (4 * (j : Int) + 3).tmod 4 = 3 := by rw [Int.tmod_eq_emod_of_nonneg (by omega)]; omega
        have hjo : j < os.length := by omega
        have hjn : j < n := by omega
        have hoc := (hblk.cell j).trans (u64s_at hjo)
        have hof := hblk.frozen j
        have hob := hca.2.1.at_ j hjo
        have hos := hca.2.2.2.2.2 j 3 hjo rfl (by omega)
        have hst := hca.step (r := 3) (d := d) (c' := c2) (by omega) hkz hjo hzlb Hsum.out hdb hc2b
        rw [show (65536 : Nat) ^ 3 = 281474976710656 from rfl] at hos hst
        obtain ⟨v, hv⟩ := nameIt (os[j] + 281474976710656 * d)
        rw [← hv] at hst
        have m5 : bits BinOp.or IntKind.u64 (os[j] : Int) ((d : Int) * 281474976710656) = (v : Int) := by
          have h9 := or_add os[j] d 48 (by omega) hob (by omega)
          rw [show (2 : Nat) ^ 48 = 281474976710656 from rfl, ← hv] at h9
          exact h9
        have Hst := Lib.hid hst
        have Hol := Lib.hid hol
        clear hst hv hol hos
        go_wp2_with (first
          | (go_at_call 72; (with_reducible refine (Hfm.out _).mono ?_); rintro e w' ⟨rfl, rfl⟩)
          | (simp only []))
        go_region
        all_goals
          go_wp2_with fail
          go_roundw
          case rel =>
            refine ⟨4 * j + 3 + 1, c2, os.set j v, by omega, by go_num, rfl, ?_, Hst.out, (hbel.setCell (p := ⟨w.heap.size, j, none⟩) (Nat.le_refl _) _).drew⟩
            have hb2 := (hblk.set_ j (Value.int IntKind.u64 (v : Int))).drew
            rw [u64s_set] at hb2
            first | exact hb2 | trace_state
          case measure => simp [intOf]; omega
    · have hk4 : k = 4 * n := by omega
      have Hk4 := Lib.hid hk4
      have t2 : 4 * n ≤ k := by omega
      have Hol := Lib.hid hca.1
      clear hk4
      go_wp2_with fail
      go_ret
      have hca2 := hca
      rw [Hk4.out] at hca2
      exact ⟨os, _, by rw [Hol.out]; rfl, Hol.out, hca.2.1, hca2.finish Hzl.out HT.out, Nat.le_refl _, hblk, hbel⟩
end Go.Proofs.Ytogkfpbapjjgfaa
