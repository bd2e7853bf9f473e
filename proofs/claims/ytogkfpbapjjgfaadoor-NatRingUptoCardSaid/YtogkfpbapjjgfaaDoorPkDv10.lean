/- The contract of carried. Conditions: the number fits in the places. The contract of scatter. Conditions: the length is a power of two, the roots are half as many. The contract of gather. Conditions: the length is a power of two, the roots are half as many. The contract of byTransform. Conditions: at most 2^29 words together. -/
import Derived.Test.YtogkfpbapjjgfaaDoorPkDv9
import Derived.Test.YtogkfpbapjjgfaaDoorPkDv7
import Derived.IntWalk
namespace Go.Proofs.YtogkfpbapjjgfaaDoor
section
open Go.RowKit

/-- What carried's row and carry are behind k digits. -/
def Carr (zl : List Nat) (n k : Nat) (os : List Nat) (c : Nat) : Prop :=
  os.length = n ∧ Dig 18446744073709551616 os ∧ c < 562949953421312 ∧ val 18446744073709551616 os + 65536 ^ k * c = val 65536 (zl.take k) ∧ (∀ j (h : j < os.length), k ≤ 4 * j → os[j] = 0) ∧ ∀ j r (h : j < os.length), k = 4 * j + r → r < 4 → os[j] < 65536 ^ r
theorem Carr.start (zl : List Nat) (n : Nat) : Carr zl n 0 (List.replicate n 0) 0 :=
  ⟨by simp, Dig.zeros_ (by omega) _, by omega, by simp [val_zeros, val], fun j h _ => by simp, fun j r h e hr => by
    simp; exact Nat.pow_pos (by omega)⟩
theorem pow16 (b q j r : Nat) (h : q = b ^ 4) : b ^ (4 * j + r) = q ^ j * b ^ r := by
  rw [Nat.pow_add, Nat.pow_mul, h]
theorem carr_val {b W V X j r k c z d c' : Nat} (hW : W = b ^ 4) (hk : k = 4 * j + r) (h : V + b ^ k * c = X) (hs : c + z = d + b * c') : V + W ^ j * (b ^ r * d) + b ^ (k + 1) * c' = X + b ^ k * z := by
  have e1 : b ^ k * c + b ^ k * z = b ^ k * d + b ^ k * (b * c') := by rw [← Nat.mul_add, hs, Nat.mul_add]
  have e2 : W ^ j * (b ^ r * d) = b ^ k * d := by rw [← Nat.mul_assoc, ← pow16 b W j r hW, ← hk]
  rw [e2, Nat.pow_succ, Nat.mul_assoc]
  generalize b ^ k * (b * c') = t1 at *
  generalize b ^ k * d = t2 at *
  generalize b ^ k * z = t3 at *
  generalize b ^ k * c = t4 at *
  omega
theorem carr_fit {b r x d : Nat} (_ : 0 < b) (hx : x < b ^ r) (hd : d < b) : x + b ^ r * d < b ^ (r + 1) := by
  rw [Nat.pow_succ]
  have : b ^ r * (d + 1) ≤ b ^ r * b := Nat.mul_le_mul_left _ hd
  rw [Nat.mul_add] at this
  omega
theorem pow_mono_lt {b x r : Nat} (hb : 0 < b) (hr : r < 4) (h : x < b ^ (r + 1)) (W : Nat) (hW : W = b ^ 4) : x < W := by
  rw [hW]; exact Nat.lt_of_lt_of_le h (Nat.pow_le_pow_right hb (by omega))
theorem Carr.step {zl os : List Nat} {n j r c d c' : Nat} (h : Carr zl n (4 * j + r) os c) (hr : r < 4) (hk : 4 * j + r < zl.length) (hj : j < os.length) (_ : zl[4 * j + r] < 18446744073709551616) (hs : c + zl[4 * j + r] = d + 65536 * c') (hd : d < 65536) (hc : c' < 562949953421312) :
    Carr zl n (4 * j + r + 1) (os.set j (os[j] + 65536 ^ r * d)) c' := by
  obtain ⟨h1, h2, h3, h4, h5, h6⟩ := h
  have hx := h6 j r hj rfl hr
  have hf := carr_fit (by omega) hx hd
  have hW := pow_mono_lt (by omega) hr hf 18446744073709551616 (by decide)
  refine ⟨by simpa using h1, h2.set_ _ _ hW, hc, ?_, fun i hi hki => ?_, fun i q hi e hq => ?_⟩
  · have e1 := val_set 18446744073709551616 os j (os[j] + 65536 ^ r * d) hj
    rw [Nat.mul_add] at e1
    have e2 : val 18446744073709551616 (os.set j (os[j] + 65536 ^ r * d)) = val 18446744073709551616 os + 18446744073709551616 ^ j * (65536 ^ r * d) := by
      generalize 18446744073709551616 ^ j * (65536 ^ r * d) = t1 at *
      generalize 18446744073709551616 ^ j * os[j] = t2 at *
      omega
    rw [e2, val_take_succ _ zl _ hk]
    exact carr_val (by decide) rfl h4 hs
  · rw [List.getElem_set, if_neg (by omega)]
    exact h5 i (by simpa using hi) (by omega)
  · rw [List.getElem_set]
    split
    · obtain rfl : q = r + 1 := by omega
      exact hf
    · have hi2 : i < os.length := by simpa using hi
      have : os[i] = 0 := h5 i hi2 (by omega)
      rw [this]; exact Nat.pow_pos (by omega)
theorem Carr.finish {zl os : List Nat} {n c : Nat} (h : Carr zl n (4 * n) os c) (hl : zl.length = 4 * n) (hT : val 65536 zl < 18446744073709551616 ^ n) : val 18446744073709551616 os = val 65536 zl := by
  have h4 := h.2.2.2.1
  rw [List.take_of_length_le (by omega), Nat.pow_mul, show (65536 : Nat) ^ 4 = 18446744073709551616 from rfl] at h4
  exact carry_zero2 h4 hT

theorem or_add (x d i : Nat) (hx : x < 2 ^ i) (hb : x < 18446744073709551616) (hd : d * 2 ^ i < 18446744073709551616) : bits BinOp.or IntKind.u64 (x : Int) ((d * 2 ^ i : Nat) : Int) = ((x + 2 ^ i * d : Nat) : Int) := by
  rw [u64_or_nat x (d * 2 ^ i) hb hd, Nat.or_comm, or_shift x d i hx]

set_option maxHeartbeats 3200000 in
theorem carried_any (A : Option Addr) (c : Nat) (xs zl : List Nat) (sc n : Nat) (w : World) (B : Nat) (hr : Rd w B A (u64s xs)) (hB : B ≤ w.heap.size) (hd : Dig 18446744073709551616 xs) (hsc : sc < 18446744073709551616) (hn : 4 * n ≤ xs.length) (hzl : zl.length = 4 * n) (hz : ∀ i (h : i < xs.length) (h2 : i < zl.length), xs[i] * sc % 18446744069414584321 = zl[i]) (hT : val 65536 zl < 18446744073709551616 ^ n) (hm : n ≤ 35184372088832) :
    Calls Tryd.prog 109 #[.slice A xs.length c, .int .u64 (sc : Int), .int .i64 (n : Int)] w fun e w' => Words w w' n (val 65536 zl) e := by
  have hmk := fun W => mk64 n hm W
  have Hz := Lib.hid hz
  have Hzl := Lib.hid hzl
  have HT := Lib.hid hT
  clear hz hzl hT
  go_enter Tryd.func109, Tryd.ntmps109
  go_wp2_with fail
  go_loopw [8, 9, 10, 15] (fun cv _ _ i wr => ∃ (k cc : Nat) (os : List Nat), k ≤ 4 * n ∧ i = .int .i64 k ∧ cv = .int .u64 cc ∧ Blk wr w.heap.size 24 (u64s os) ∧ Carr zl n k os cc ∧ Below w.heap.size w wr) (fun _ _ _ i _ => 4 * n - (intOf i).toNat)
  case atStart => exact ⟨0, 0, List.replicate n 0, by omega, rfl, rfl, Blk.new_ (by simp [u64s]), Carr.start _ _, (Below.refl _ _).alloc (Nat.le_refl _) _⟩
  case round =>
    obtain ⟨k, cc, os, hk, rfl, rfl, hblk, hca, hbel⟩ := hrel
    by_cases hlt : k < 4 * n
    · obtain ⟨b, off, rfl, hb, hx⟩ := hr.at64 (k := k) (by omega)
      have hx := (hbel.cell (p := ⟨b, off + k, none⟩) (show b < _ by omega)).trans hx
      have hkx : k < xs.length := by omega
      have hkz : k < zl.length := by rw [Hzl.out]; exact hlt
      have hxd := hd.at_ k hkx
      have hzk := Hz.out k hkx hkz
      have hfm := fun W => fieldMul_any xs[k] sc hxd hsc W
      rw [hzk] at hfm
      have hzb : zl[k] < 18446744069414584321 := by rw [← hzk]; exact Nat.mod_lt _ (by omega)
      have hzlb : zl[k] < 18446744073709551616 := by omega
      have hccb := hca.2.2.1
      obtain ⟨z, hze⟩ : ∃ z, z = zl[k] := ⟨_, rfl⟩
      rw [← hze] at hfm hzb
      have a1 := fun W => add64_run0 cc z W
      obtain ⟨lo, hlo⟩ := nameIt ((cc + z) % 18446744073709551616)
      obtain ⟨ov, hov⟩ := nameIt ((cc + z) / 18446744073709551616)
      rw [← hlo, ← hov] at a1
      have hlob : lo < 18446744073709551616 := by omega
      have hovb : ov ≤ 1 := by omega
      have m1 := and_mask lo hlob
      obtain ⟨d, hdd⟩ := nameIt (lo % 65536)
      rw [← hdd] at m1
      have hdb : d < 65536 := by omega
      obtain ⟨y, hy⟩ := nameIt (lo / 65536)
      have m2 : (lo : Int) / 65536 = (y : Int) := by omega
      have hyb : y < 281474976710656 := by omega
      obtain ⟨c2, hc2⟩ := nameIt (y + 281474976710656 * ov)
      have m3 : bits BinOp.or IntKind.u64 (y : Int) ((ov : Int) * 281474976710656) = (c2 : Int) := by
        have h9 := or_add y ov 48 (by omega) (by omega) (by omega)
        rw [show (2 : Nat) ^ 48 = 281474976710656 from rfl, ← hc2] at h9
        exact h9
      have hc2b : c2 < 562949953421312 := by omega
      have hsum : cc + z = d + 65536 * c2 := by omega
      have m2w : bits BinOp.or IntKind.u64 ((lo : Int) / 65536) ((ov : Int) * 281474976710656) = (c2 : Int) := by rw [m2]; exact m3
      rw [hze] at hsum
      have Hfm := Lib.hid hfm
      have Hsum := Lib.hid hsum
      have m4 : (lo : Int) % 65536 = (d : Int) := by omega
      clear hzk hfm hze hlo hov hdd hy hc2 hsum
      have hol := hca.1
      obtain ⟨j, hj⟩ : ∃ j, k = 4 * j ∨ k = 4 * j + 1 ∨ k = 4 * j + 2 ∨ k = 4 * j + 3 := ⟨k / 4, by omega⟩
      rcases hj with rfl | rfl | rfl | rfl
      · have q1 : (4 * (j : Int)) / 4 = (j : Int) := by omega
        have q2 : (4 * (j : Int)) % 4 = 0 := by omega
        have q3 : (4 * j) / 4 = j := by omega
        have q4 : (4 * j) % 4 = 0 := by omega
        have q5 : (4 * (j : Int)).tdiv 4 = (j : Int) := by rw [Int.tdiv_eq_ediv_of_nonneg (by omega)]; omega
        have q6 : (4 * (j : Int)).tmod 4 = 0 := by rw [Int.tmod_eq_emod_of_nonneg (by omega)]; omega
        have hjo : j < os.length := by omega
        have hjn : j < n := by omega
        have hoc := (hblk.cell j).trans (u64s_at hjo)
        have hof := hblk.frozen j
        have hob := hca.2.1.at_ j hjo
        have hos := hca.2.2.2.2.2 j 0 hjo rfl (by omega)
        have hst := hca.step (r := 0) (d := d) (c' := c2) (by omega) hkz hjo hzlb Hsum.out hdb hc2b
        rw [show (65536 : Nat) ^ 0 = 1 from rfl] at hos hst
        obtain ⟨v, hv⟩ := nameIt (os[j] + 1 * d)
        rw [← hv] at hst
        have m5 : bits BinOp.or IntKind.u64 (os[j] : Int) ((d : Int)) = (v : Int) := by
          have h9 := or_add os[j] d 0 (by omega) hob (by omega)
          rw [show (2 : Nat) ^ 0 = 1 from rfl, ← hv] at h9
          simpa using h9
        have Hst := Lib.hid hst
        have Hol := Lib.hid hol
        clear hst hv hol hos
        go_wp2_with (first
          | (go_at_call 107; (with_reducible refine (Hfm.out _).mono ?_); rintro e w' ⟨rfl, rfl⟩)
          | (simp only []))
        go_region
        all_goals
          go_wp2_with fail
          go_roundw
          case rel =>
            refine ⟨4 * j + 0 + 1, c2, os.set j v, by omega, by go_num, rfl, ?_, Hst.out, (hbel.setCell (p := ⟨w.heap.size, j, none⟩) (Nat.le_refl _) _).drew⟩
            have hb2 := (hblk.set_ j (Value.int IntKind.u64 (v : Int))).drew
            rw [u64s_set] at hb2
            first | exact hb2 | trace_state
          case measure => simp [intOf]; omega
      · have q1 : (4 * (j : Int) + 1) / 4 = (j : Int) := by omega
        have q2 : (4 * (j : Int) + 1) % 4 = 1 := by omega
        have q3 : (4 * j + 1) / 4 = j := by omega
        have q4 : (4 * j + 1) % 4 = 1 := by omega
        have q5 : (4 * (j : Int) + 1).tdiv 4 = (j : Int) := by rw [Int.tdiv_eq_ediv_of_nonneg (by omega)]; omega
        have q6 : (4 * (j : Int) + 1).tmod 4 = 1 := by rw [Int.tmod_eq_emod_of_nonneg (by omega)]; omega
        have hjo : j < os.length := by omega
        have hjn : j < n := by omega
        have hoc := (hblk.cell j).trans (u64s_at hjo)
        have hof := hblk.frozen j
        have hob := hca.2.1.at_ j hjo
        have hos := hca.2.2.2.2.2 j 1 hjo rfl (by omega)
        have hst := hca.step (r := 1) (d := d) (c' := c2) (by omega) hkz hjo hzlb Hsum.out hdb hc2b
        rw [show (65536 : Nat) ^ 1 = 65536 from rfl] at hos hst
        obtain ⟨v, hv⟩ := nameIt (os[j] + 65536 * d)
        rw [← hv] at hst
        have m5 : bits BinOp.or IntKind.u64 (os[j] : Int) ((d : Int) * 65536) = (v : Int) := by
          have h9 := or_add os[j] d 16 (by omega) hob (by omega)
          rw [show (2 : Nat) ^ 16 = 65536 from rfl, ← hv] at h9
          exact h9
        have Hst := Lib.hid hst
        have Hol := Lib.hid hol
        clear hst hv hol hos
        go_wp2_with (first
          | (go_at_call 107; (with_reducible refine (Hfm.out _).mono ?_); rintro e w' ⟨rfl, rfl⟩)
          | (simp only []))
        go_region
        all_goals
          go_wp2_with fail
          go_roundw
          case rel =>
            refine ⟨4 * j + 1 + 1, c2, os.set j v, by omega, by go_num, rfl, ?_, Hst.out, (hbel.setCell (p := ⟨w.heap.size, j, none⟩) (Nat.le_refl _) _).drew⟩
            have hb2 := (hblk.set_ j (Value.int IntKind.u64 (v : Int))).drew
            rw [u64s_set] at hb2
            first | exact hb2 | trace_state
          case measure => simp [intOf]; omega
      · have q1 : (4 * (j : Int) + 2) / 4 = (j : Int) := by omega
        have q2 : (4 * (j : Int) + 2) % 4 = 2 := by omega
        have q3 : (4 * j + 2) / 4 = j := by omega
        have q4 : (4 * j + 2) % 4 = 2 := by omega
        have q5 : (4 * (j : Int) + 2).tdiv 4 = (j : Int) := by rw [Int.tdiv_eq_ediv_of_nonneg (by omega)]; omega
        have q6 : (4 * (j : Int) + 2).tmod 4 = 2 := by rw [Int.tmod_eq_emod_of_nonneg (by omega)]; omega
        have hjo : j < os.length := by omega
        have hjn : j < n := by omega
        have hoc := (hblk.cell j).trans (u64s_at hjo)
        have hof := hblk.frozen j
        have hob := hca.2.1.at_ j hjo
        have hos := hca.2.2.2.2.2 j 2 hjo rfl (by omega)
        have hst := hca.step (r := 2) (d := d) (c' := c2) (by omega) hkz hjo hzlb Hsum.out hdb hc2b
        rw [show (65536 : Nat) ^ 2 = 4294967296 from rfl] at hos hst
        obtain ⟨v, hv⟩ := nameIt (os[j] + 4294967296 * d)
        rw [← hv] at hst
        have m5 : bits BinOp.or IntKind.u64 (os[j] : Int) ((d : Int) * 4294967296) = (v : Int) := by
          have h9 := or_add os[j] d 32 (by omega) hob (by omega)
          rw [show (2 : Nat) ^ 32 = 4294967296 from rfl, ← hv] at h9
          exact h9
        have Hst := Lib.hid hst
        have Hol := Lib.hid hol
        clear hst hv hol hos
        go_wp2_with (first
          | (go_at_call 107; (with_reducible refine (Hfm.out _).mono ?_); rintro e w' ⟨rfl, rfl⟩)
          | (simp only []))
        go_region
        all_goals
          go_wp2_with fail
          go_roundw
          case rel =>
            refine ⟨4 * j + 2 + 1, c2, os.set j v, by omega, by go_num, rfl, ?_, Hst.out, (hbel.setCell (p := ⟨w.heap.size, j, none⟩) (Nat.le_refl _) _).drew⟩
            have hb2 := (hblk.set_ j (Value.int IntKind.u64 (v : Int))).drew
            rw [u64s_set] at hb2
            first | exact hb2 | trace_state
          case measure => simp [intOf]; omega
      · have q1 : (4 * (j : Int) + 3) / 4 = (j : Int) := by omega
        have q2 : (4 * (j : Int) + 3) % 4 = 3 := by omega
        have q3 : (4 * j + 3) / 4 = j := by omega
        have q4 : (4 * j + 3) % 4 = 3 := by omega
        have q5 : (4 * (j : Int) + 3).tdiv 4 = (j : Int) := by rw [Int.tdiv_eq_ediv_of_nonneg (by omega)]; omega
        have q6 : (4 * (j : Int) + 3).tmod 4 = 3 := by rw [Int.tmod_eq_emod_of_nonneg (by omega)]; omega
        have hjo : j < os.length := by omega
        have hjn : j < n := by omega
        have hoc := (hblk.cell j).trans (u64s_at hjo)
        have hof := hblk.frozen j
        have hob := hca.2.1.at_ j hjo
        have hos := hca.2.2.2.2.2 j 3 hjo rfl (by omega)
        have hst := hca.step (r := 3) (d := d) (c' := c2) (by omega) hkz hjo hzlb Hsum.out hdb hc2b
        rw [show (65536 : Nat) ^ 3 = 281474976710656 from rfl] at hos hst
        obtain ⟨v, hv⟩ := nameIt (os[j] + 281474976710656 * d)
        rw [← hv] at hst
        have m5 : bits BinOp.or IntKind.u64 (os[j] : Int) ((d : Int) * 281474976710656) = (v : Int) := by
          have h9 := or_add os[j] d 48 (by omega) hob (by omega)
          rw [show (2 : Nat) ^ 48 = 281474976710656 from rfl, ← hv] at h9
          exact h9
        have Hst := Lib.hid hst
        have Hol := Lib.hid hol
        clear hst hv hol hos
        go_wp2_with (first
          | (go_at_call 107; (with_reducible refine (Hfm.out _).mono ?_); rintro e w' ⟨rfl, rfl⟩)
          | (simp only []))
        go_region
        all_goals
          go_wp2_with fail
          go_roundw
          case rel =>
            refine ⟨4 * j + 3 + 1, c2, os.set j v, by omega, by go_num, rfl, ?_, Hst.out, (hbel.setCell (p := ⟨w.heap.size, j, none⟩) (Nat.le_refl _) _).drew⟩
            have hb2 := (hblk.set_ j (Value.int IntKind.u64 (v : Int))).drew
            rw [u64s_set] at hb2
            first | exact hb2 | trace_state
          case measure => simp [intOf]; omega
    · have hk4 : k = 4 * n := by omega
      have Hk4 := Lib.hid hk4
      have t2 : 4 * n ≤ k := by omega
      have Hol := Lib.hid hca.1
      clear hk4
      go_wp2_with fail
      go_ret
      have hca2 := hca
      rw [Hk4.out] at hca2
      exact ⟨os, _, by rw [Hol.out]; rfl, Hol.out, hca.2.1, hca2.finish Hzl.out HT.out, Nat.le_refl _, hblk, hbel⟩
end
section
open Go.RowKit

/-- A row that is partly turned: new below f, and i places of two halves from f on. -/
def Mix (S T : Nat → FP) (n f h i : Nat) (zs : List Nat) : Prop :=
  zs.length = n ∧ (∀ v ∈ zs, v < 18446744069414584321) ∧ ∀ j (hj : j < zs.length), ph zs[j] = if j < f ∨ (f ≤ j ∧ j < f + i) ∨ (f + h ≤ j ∧ j < f + h + i) then T j else S j
/-- A row that is S. -/
def Row (S : Nat → FP) (n : Nat) (zs : List Nat) : Prop :=
  zs.length = n ∧ (∀ v ∈ zs, v < 18446744069414584321) ∧ ∀ j (hj : j < zs.length), ph zs[j] = S j
theorem Mix.start {S T : Nat → FP} {n h : Nat} {zs : List Nat} (hr : Row S n zs) : Mix S T n 0 h 0 zs :=
  ⟨hr.1, hr.2.1, fun j hj => by rw [if_neg (by omega)]; exact hr.2.2 j hj⟩
theorem Mix.next {S T : Nat → FP} {n f h : Nat} {zs : List Nat} (hm : Mix S T n f h h zs) : Mix S T n (f + 2 * h) h 0 zs :=
  ⟨hm.1, hm.2.1, fun j hj => by
    rw [hm.2.2 j hj]
    by_cases h1 : j < f + 2 * h
    · rw [if_pos (by omega), if_pos (by omega)]
    · rw [if_neg (by omega), if_neg (by omega)]⟩
theorem Mix.done {S T : Nat → FP} {n h : Nat} {zs : List Nat} (hm : Mix S T n n h 0 zs) : Row T n zs :=
  ⟨hm.1, hm.2.1, fun j hj => by rw [hm.2.2 j hj, if_pos (by have := hm.1; omega)]⟩
theorem Mix.old {S T : Nat → FP} {n f h i j : Nat} {zs : List Nat} (hm : Mix S T n f h i zs) (hj : j < zs.length) (h1 : f ≤ j) (h2 : ¬ (j < f + i)) (h3 : ¬ (f + h ≤ j ∧ j < f + h + i)) : ph zs[j] = S j := by
  rw [hm.2.2 j hj, if_neg (by omega)]
theorem Mix.step {S T : Nat → FP} {n f h i a b : Nat} {zs : List Nat} (hm : Mix S T n f h i zs) (hi : i < h) (_ : f + 2 * h ≤ n) (ha : a < 18446744069414584321) (hb : b < 18446744069414584321) (ea : ph a = T (f + i)) (eb : ph b = T (f + h + i)) : Mix S T n f h (i + 1) ((zs.set (f + i) a).set (f + h + i) b) := by
  refine ⟨by simpa using hm.1, fun v hv => ?_, fun j hj => ?_⟩
  · rcases List.mem_or_eq_of_mem_set hv with hv | rfl
    · rcases List.mem_or_eq_of_mem_set hv with hv | rfl
      · exact hm.2.1 v hv
      · exact ha
    · exact hb
  · have hj2 : j < zs.length := by simpa using hj
    rw [List.getElem_set]
    split
    · rename_i e
      subst e
      rw [if_pos (by omega)]; exact eb
    · rw [List.getElem_set]
      split
      · rename_i e
        subst e
        rw [if_pos (by omega)]; exact ea
      · rw [hm.2.2 j hj2]
        by_cases h1 : j < f ∨ (f ≤ j ∧ j < f + i) ∨ (f + h ≤ j ∧ j < f + h + i)
        · rw [if_pos h1, if_pos (by omega)]
        · rw [if_neg h1, if_neg (by omega)]

theorem ph_sub {u v : Nat} (hv : v < 18446744069414584321) : ph ((u + 18446744069414584321 - v) % 18446744069414584321) = ph u - ph v := by
  have h1 : ph (u + 18446744069414584321 - v) + ph v = ph u := by
    rw [← ph_add, show u + 18446744069414584321 - v + v = u + 18446744069414584321 from by omega]
    apply ph_of_mod; omega
  rw [ph_mod]
  grind
theorem sLay_low {z9 : Nat} {h q i : Nat} (rt S : Nat → Fin z9) (hi : i < h) : sLay h rt S (2 * h * q + i) = S (2 * h * q + i) + S (2 * h * q + h + i) := by
  unfold sLay
  rw [mod_low hi, if_pos hi, show 2 * h * q + i + h = 2 * h * q + h + i from by omega]
theorem sLay_high {z9 : Nat} {h q i : Nat} (rt S : Nat → Fin z9) (hi : i < h) : sLay h rt S (2 * h * q + h + i) = (S (2 * h * q + i) - S (2 * h * q + h + i)) * rt i := by
  unfold sLay
  rw [mod_high hi, if_neg (by omega), show 2 * h * q + h + i - h = 2 * h * q + i from by omega, show h + i - h = i from by omega]
theorem gLay_low {z9 : Nat} {h q i : Nat} (rt S : Nat → Fin z9) (hi : i < h) : gLay h rt S (2 * h * q + i) = S (2 * h * q + i) + S (2 * h * q + h + i) * rt i := by
  unfold gLay
  rw [mod_low hi, if_pos hi, show 2 * h * q + i + h = 2 * h * q + h + i from by omega]
theorem gLay_high {z9 : Nat} {h q i : Nat} (rt S : Nat → Fin z9) (hi : i < h) : gLay h rt S (2 * h * q + h + i) = S (2 * h * q + i) - S (2 * h * q + h + i) * rt i := by
  unfold gLay
  rw [mod_high hi, if_neg (by omega), show 2 * h * q + h + i - h = 2 * h * q + i from by omega, show h + i - h = i from by omega]

/-- The roots of a layer, read off a list. -/
def rtsL (rs : List Nat) (k : Nat) : Nat → Nat → FP := fun h i => ph (rs.getD (i * (2 ^ (k - 1) / h)) 0)

theorem p_lt (zs : List Nat) (h : ∀ v ∈ zs, v < 18446744069414584321) (j : Nat) (hj : j < zs.length) : zs[j] < 18446744069414584321 := h _ (List.getElem_mem hj)

theorem lay_ix {h B i : Nat} (hi : i < h) : i * B < h * B ∨ B = 0 := by
  rcases Nat.eq_zero_or_pos B with h0 | h0
  · exact Or.inr h0
  · exact Or.inl (Nat.mul_lt_mul_of_pos_right hi h0)

set_option maxHeartbeats 3200000 in
set_option maxRecDepth 100000 in
theorem scatter_any (g : Nat) (xs rs : List Nat) (k : Nat) (A : Option Addr) (c : Nat) (w : World) (hblk : Blk w g 24 (u64s xs)) (hrx : Rx w g A (u64s rs)) (hk : 1 ≤ k) (hk2 : k ≤ 40) (hxl : xs.length = 2 ^ k) (hrl : rs.length = 2 ^ (k - 1)) (hxp : ∀ v ∈ xs, v < 18446744069414584321) (hrp : ∀ v ∈ rs, v < 18446744069414584321) :
    Calls Tryd.prog 106 #[.slice (some ⟨g, 0, none⟩) xs.length xs.length, .slice A rs.length c] w fun e w' => ∃ zs, e = .returned (.tuple #[]) ∧ Row (sAll (rtsL rs k) k k (fl xs)) (2 ^ k) zs ∧ Blk w' g 24 (u64s zs) ∧ Tn g w w' := by
  obtain ⟨N, hN⟩ : ∃ N, N = 2 ^ (k - 1) := ⟨_, rfl⟩
  have hk9 : 2 ^ k = 2 * N := by rw [hN, ← Nat.pow_succ']; congr 1; omega
  have hNb : N ≤ 1099511627776 := by rw [hN, show (1099511627776 : Nat) = 2 ^ 40 from rfl]; exact Nat.pow_le_pow_right (by omega) (by omega)
  have hN0 : 1 ≤ N := by rw [hN]; exact Nat.two_pow_pos _
  obtain ⟨M, hM⟩ : ∃ M, M = 2 * N := ⟨_, rfl⟩
  rw [← hM] at hk9
  have hrow0 : Row (sAll (rtsL rs k) k 0 (fl xs)) M xs := ⟨hxl.trans hk9, hxp, fun j hj => by
    show ph xs[j] = ph (xs.getD j 0)
    rw [List.getD_eq_getElem?_getD, List.getElem?_eq_getElem hj]; rfl⟩
  rw [← hN] at hrl
  have hxl2 : xs.length = M := hxl.trans hk9
  have HN := Lib.hid hN
  have Hk9 := Lib.hid hk9
  rw [hxl2, hrl]
  have hgw := hblk.lt
  have q1 : (M : Int) / 2 = (N : Int) := by omega
  have HM := Lib.hid hM
  have hMb : M ≤ 2199023255552 := by omega
  have Hrp : Hid (∀ v ∈ rs, v < 18446744069414584321) := hrp
  have Hrl := Lib.hid hrl
  clear hN hk9 hxl hxl2 hrp hrl hM
  go_enter Tryd.func106, Tryd.ntmps106
  go_wp2_with fail
  go_loopw [4, 5, 6, 7, 8, 9, 10, 11] (fun hv _ _ _ _ _ _ _ wr => ∃ (m h : Nat) (zs : List Nat), m ≤ k ∧ hv = .int .i64 h ∧ Hid (m < k → h = 2 ^ (k - 1 - m)) ∧ Hid (m = k → h = 0) ∧ Row (sAll (rtsL rs k) k m (fl xs)) M zs ∧ Blk wr g 24 (u64s zs) ∧ Tn g w wr) (fun hv _ _ _ _ _ _ _ _ => (intOf hv).toNat)
  case atStart => exact ⟨0, N, xs, by omega, rfl, fun _ => by rw [HN.out]; rfl, fun e => by omega, hrow0, hblk, Tn.refl _ _⟩
  case round =>
    clear hrow0 hblk
    obtain ⟨m, h, zs, hm, rfl, Hh, Hh0, hrow, hblk, htn⟩ := hrel
    by_cases hmk : m < k
    · have hh := Hh.out hmk
      obtain ⟨D, hD⟩ : ∃ D, D = 2 ^ m := ⟨_, rfl⟩
      have hh1 : 1 ≤ h := by rw [hh]; exact Nat.two_pow_pos _
      have hNB : N = h * D := by rw [HN.out, hh, hD, ← Nat.pow_add]; congr 1; omega
      have q2 : (N : Int) / (h : Int) = (D : Int) := by
        rw [hNB]
        have h9 : ((h * D : Nat) : Int) / (h : Int) = ((h * D / h : Nat) : Int) := (Int.natCast_ediv _ _).symm
        rw [h9, Nat.mul_div_cancel_left _ (by omega)]
      have q3 : (N : Int).tdiv (h : Int) = (D : Int) := by rw [Int.tdiv_eq_ediv_of_nonneg (by omega), q2]
      have hDN : D ≤ N := by rw [hNB]; exact Nat.le_mul_of_pos_left _ (by omega)
      have hdv := Lib.hid (show 2 ^ (k - 1) / h = D from by rw [← HN.out, hNB, Nat.mul_div_cancel_left _ (by omega)])
      obtain ⟨h2, hh2⟩ := nameIt (h / 2)
      have q4 : (h : Int) / 2 = (h2 : Int) := by omega
      have hlt2 : h2 < h := by omega
      have Hh2a : Hid (m + 1 < k → h2 = 2 ^ (k - 1 - (m + 1))) := fun hmk2 => by
        rw [hh2, hh, show k - 1 - m = k - 1 - (m + 1) + 1 from by omega, Nat.pow_succ]; omega
      have Hh2b : Hid (m + 1 = k → h2 = 0) := fun hmk2 => by
        rw [hh2, hh, show k - 1 - m = 0 from by omega]
      have hT : sAll (rtsL rs k) k (m + 1) (fl xs) = sLay h (rtsL rs k h) (sAll (rtsL rs k) k m (fl xs)) := by
        rw [hh]; rfl
      have HT := Lib.hid hT
      obtain ⟨S, hS⟩ : ∃ S, S = sAll (rtsL rs k) k m (fl xs) := ⟨_, rfl⟩
      rw [← hS] at hrow HT
      obtain ⟨T, hT2⟩ : ∃ T, T = sLay h (rtsL rs k h) S := ⟨_, rfl⟩
      have HT2 := Lib.hid hT2
      rw [← hT2] at HT
      have HNB := Lib.hid hNB
      have t1 : decide ((1 : Int) ≤ (h : Int)) = true := by simp; omega
      have hne : ¬ ((h : Int) = 0) := by omega
      have hne2 : ((h : Int) == 0) = false := by simp; omega
      have hhN : h ≤ N := by rw [hNB]; exact Nat.le_mul_of_pos_right _ (by rw [hD]; exact Nat.two_pow_pos _)
      clear hh hD hNB hh2 hS hT hT2 Hh Hh0
      go_wp2_with fail
      go_loopw [6, 7, 8, 9, 10, 11] (fun fv _ _ _ _ _ wr => ∃ (q f : Nat) (zs : List Nat), q ≤ D ∧ fv = .int .i64 f ∧ Hid (f = 2 * h * q) ∧ f ≤ M ∧ Mix S T M f h 0 zs ∧ Blk wr g 24 (u64s zs) ∧ Tn g w wr) (fun fv _ _ _ _ _ _ => M - (intOf fv).toNat)
      case atStart => exact ⟨0, 0, zs, by omega, rfl, rfl, by omega, Mix.start hrow, hblk, htn⟩
      case round =>
        clear hrow hblk htn
        obtain ⟨q, f, zs, hq, rfl, Hf, hfN, hmix, hblk, htn⟩ := hrel
        by_cases hlt : f < M
        · have hqD : q < D := by
            rcases Nat.lt_or_ge q D with h9 | h9
            · exact h9
            · exfalso
              have e1 := Hf.out
              rw [HM.out, HNB.out] at hlt
              have e2 : 2 * h * D ≤ 2 * h * q := Nat.mul_le_mul_left _ h9
              rw [Nat.mul_assoc] at e2
              omega
          have hf2 : f + 2 * h ≤ M := by
            have e1 := Hf.out
            rw [HM.out]
            have e2 : 2 * h * (q + 1) ≤ 2 * h * D := Nat.mul_le_mul_left _ hqD
            rw [Nat.mul_succ, Nat.mul_assoc 2 h D, ← HNB.out] at e2
            omega
          have Hf2 : Hid (f + 2 * h = 2 * h * (q + 1)) := by
            have e1 := Hf.out
            show f + 2 * h = _
            rw [Nat.mul_succ]; omega
          obtain ⟨fh, hfh⟩ := nameIt (f + h)
          obtain ⟨hd, hhd⟩ := nameIt (2 * h)
          obtain ⟨f2, hff2⟩ := nameIt (f + hd)
          have e1 : (f : Int) + (h : Int) = (fh : Int) := by omega
          have e2 : 2 * (h : Int) = (hd : Int) := by omega
          have e3 : (f : Int) + (hd : Int) = (f2 : Int) := by omega
          have ew1 : IntKind.i64.wrap (fh : Int) = (fh : Int) := IntWalk.i64_in _ (by omega)
          have ew2 : IntKind.i64.wrap (hd : Int) = (hd : Int) := IntWalk.i64_in _ (by omega)
          have ew3 : IntKind.i64.wrap (f2 : Int) = (f2 : Int) := IntWalk.i64_in _ (by omega)
          have j2 : fh ≤ M := by omega
          have j3 : f2 ≤ M := by omega
          have j4 : ¬ (M = f) := by omega
          have j5 : ¬ (M = fh) := by omega
          have j6 : f ≤ fh := by omega
          have j7 : fh ≤ f2 := by omega
          have j8 : fh - f = h := by omega
          have j9 : f2 - fh = h := by omega
          have Hfh := Lib.hid hfh
          have Hff2 : Hid (f2 = f + 2 * h) := (by omega : f2 = f + 2 * h)
          clear hfh hhd hff2 hf2
          go_upto_region 7 with (fail)
          go_region_held3 (fun _ => True) (exact trivial) (fail)
          all_goals
            go_wp2_with fail
            go_loopw [9, 10, 11, 48] (fun _ _ _ iv wr => ∃ (i : Nat) (zs : List Nat), i ≤ h ∧ iv = .int .i64 i ∧ Mix S T M f h i zs ∧ Blk wr g 24 (u64s zs) ∧ Tn g w wr) (fun _ _ _ iv _ => h - (intOf iv).toNat)
            case atStart => exact ⟨0, zs, by omega, rfl, hmix, by first | exact hblk | exact hblk.drew, by first | exact htn | exact htn.drew⟩
            case round =>
              clear hmix hblk htn
              obtain ⟨i, zs, hi, rfl, hmix, hblk, htn⟩ := hrel
              by_cases hih : i < h
              · have hfh := Hfh.out
                have hff2 := Hff2.out
                have hzl := hmix.1
                have hix1 : f + i < zs.length := by omega
                have hix2 : fh + i < zs.length := by omega
                obtain ⟨u, hu⟩ : ∃ u, u = zs[f + i] := ⟨_, rfl⟩
                obtain ⟨v, hv⟩ : ∃ v, v = zs[fh + i] := ⟨_, rfl⟩
                have cu := (hblk.cell (f + i)).trans (u64s_at hix1)
                have cv := (hblk.cell (fh + i)).trans (u64s_at hix2)
                rw [← hu] at cu
                rw [← hv] at cv
                have hup : u < 18446744069414584321 := by rw [hu]; exact p_lt zs hmix.2.1 _ _
                have hvp : v < 18446744069414584321 := by rw [hv]; exact p_lt zs hmix.2.1 _ _
                have eu : ph u = S (f + i) := by rw [hu]; exact hmix.old hix1 (by omega) (by omega) (by omega)
                have ev : ph v = S (f + h + i) := by rw [hv, show S (f + h + i) = S (fh + i) from by rw [hfh]]; exact hmix.old hix2 (by omega) (by omega) (by omega)
                have fu := hblk.frozen (f + i)
                obtain ⟨a, hae⟩ : ∃ a, a = (u + v) % 18446744069414584321 := ⟨_, rfl⟩
                obtain ⟨d, hde⟩ := nameIt ((u + 18446744069414584321 - v) % 18446744069414584321)
                have hap : a < 18446744069414584321 := by rw [hae]; exact Nat.mod_lt _ (by omega)
                have hdp : d < 18446744069414584321 := by rw [hde]; exact Nat.mod_lt _ (by omega)
                have hadd := fun W => fieldAdd_any u v hup hvp W
                have hsub := fun W => fieldSub_any u v hup hvp W
                rw [← hae] at hadd
                rw [← hde] at hsub
                have Hadd := Lib.hid hadd
                have Hsub := Lib.hid hsub
                have ea : ph a = S (f + i) + S (f + h + i) := by rw [hae, ph_mod, ph_add, eu, ev]
                have ed : ph d = S (f + i) - S (f + h + i) := by rw [hde, ph_sub hvp, eu, ev]
                obtain ⟨ix, hix⟩ : ∃ ix, ix = i * D := ⟨_, rfl⟩
                have hixN : ix < N := by
                  rw [hix, HNB.out]
                  exact Nat.mul_lt_mul_of_pos_right hih (by
                    rcases Nat.eq_zero_or_pos D with h0 | h0
                    · exfalso; have := HNB.out; rw [h0] at this; omega
                    · exact h0)
                have e5 : (i : Int) * (D : Int) = (ix : Int) := by rw [hix]; simp
                have ew5 : IntKind.i64.wrap (ix : Int) = (ix : Int) := IntWalk.i64_in _ (by omega)
                have ixr : ix < rs.length := by rw [Hrl.out]; exact hixN
                obtain ⟨b, off, rfl, hbw, hbg, hx⟩ := (hrx.tn htn).at64 ixr
                have hrv : rs[ix] < 18446744069414584321 := Hrp.out _ (List.getElem_mem ixr)
                have ert : ph rs[ix] = rtsL rs k h i := by
                  unfold rtsL
                  rw [hdv.out, ← hix, List.getD_eq_getElem?_getD, List.getElem?_eq_getElem ixr]; rfl
                obtain ⟨r, hre⟩ : ∃ r, r = rs[ix] := ⟨_, rfl⟩
                rw [← hre] at hx hrv ert
                have hmul := fun W => fieldMul_any d r (by omega) (by omega) W
                obtain ⟨bv, hbe⟩ : ∃ bv, bv = d * r % 18446744069414584321 := ⟨_, rfl⟩
                rw [← hbe] at hmul
                have hbp : bv < 18446744069414584321 := by rw [hbe]; exact Nat.mod_lt _ (by omega)
                have eb : ph bv = (S (f + i) - S (f + h + i)) * rtsL rs k h i := by rw [hbe, ph_mod, ph_mul, ed, ert]
                have Hmul := Lib.hid hmul
                have hst := hmix.step hih (by omega) hap hbp (by rw [ea, HT2.out, Hf.out, sLay_low _ _ hih]) (by rw [eb, HT2.out, Hf.out, sLay_high _ _ hih])
                rw [← hfh] at hst
                have Hst := Lib.hid hst
                have Hzl := Lib.hid hzl
                have hne9 : ¬ (f + i = fh + i) := by omega
                have ji1 : i < M - f := by omega
                have ji2 : i < M - fh := by omega
                clear hst hmul hadd hsub hae hde hbe hre hix eu ev ea ed eb ert hu hv hfh hff2 hzl
                go_upto_region 13 with (go_at_call 115; (with_reducible refine (Hadd.out _).mono ?_); rintro e w' ⟨rfl, rfl⟩)
                have hb1 := hblk.set_ (f + i) (.int .u64 (a : Int))
                rw [u64s_set] at hb1
                have htn1 := htn.setCell (f + i) (.int .u64 (a : Int))
                obtain ⟨vv, cv1⟩ : ∃ vv, (wr.setCell ⟨g, f + i, none⟩ (.int .u64 (a : Int))).cell? ⟨g, fh + i, none⟩ = some vv := ⟨_, (hb1.cell (fh + i)).trans (u64s_at (by rw [List.length_set]; exact hix2))⟩
                have fv1 := hb1.frozen (fh + i)
                have hx1 : (wr.setCell ⟨g, f + i, none⟩ (.int .u64 (a : Int))).cell? ⟨b, off + ix, none⟩ = some (.int .u64 (r : Int)) := by rw [← hx]; exact World.cell?_setCell_far _ _ _ _ (Ne.symm hbg)
                obtain ⟨W1, hW1⟩ : ∃ W1, W1 = wr.setCell ⟨g, f + i, none⟩ (.int .u64 (a : Int)) := ⟨_, rfl⟩
                rw [← hW1] at hb1 htn1 cv1 fv1 hx1 ⊢
                have hne10 : ¬ (g = b) := fun e => hbg e.symm
                have hne11 : ¬ (b = g) := hbg
                clear hW1 hx cu cv fu
                go_region_held3 (fun W => W.cell? ⟨b, off + ix, none⟩ = some (.int .u64 (r : Int))) (go_keep) (first
                  | (go_at_call 116; (with_reducible refine (Hsub.out _).mono ?_); rintro e w' ⟨rfl, rfl⟩)
                  | (go_at_call 107; (with_reducible refine (Hmul.out _).mono ?_); rintro e w' ⟨rfl, rfl⟩))
                all_goals
                  go_wp2_with fail
                  go_roundw
                  case rel =>
                    have hb2 := hb1.set_ (fh + i) (.int .u64 (bv : Int))
                    rw [u64s_set] at hb2
                    have htn2 := htn1.setCell (fh + i) (.int .u64 (bv : Int))
                    exact ⟨i + 1, _, by omega, by go_num, Hst.out, by first | exact hb2 | exact hb2.drew, by first | exact htn2 | exact htn2.drew⟩
                  case measure => simp [intOf]; omega
              · have hih2 : i = h := by omega
                have hmix2 : Mix S T M f2 h 0 zs := by
                  rw [Hff2.out]; rw [hih2] at hmix; exact hmix.next
                have hh9 : h ≤ i := by omega
                clear hih2 hmix
                go_wp2_with fail
                go_roundw
                case rel => exact ⟨q + 1, f2, zs, by omega, rfl, by rw [Hff2.out, Hf2.out]; exact rfl, j3, hmix2, hblk, htn⟩
                case measure => simp [intOf]; omega
        · have hfM : f = M := by omega
          rw [hfM] at hmix
          have hrow := hmix.done
          rw [← HT.out] at hrow
          have hMf : M ≤ f := by omega
          clear hfM hmix
          go_wp2_with fail
          go_roundw
          case rel => exact ⟨m + 1, h2, zs, by omega, rfl, Hh2a, Hh2b, hrow, hblk, htn⟩
          case measure => simp [intOf]; omega
    · have hm2 : m = k := by omega
      have hh := Hh0.out hm2
      subst hh
      have t1 : decide ((1 : Int) ≤ 0) = false := by decide
      have Hm2 := Lib.hid hm2
      clear hm2
      have h9 := hrow
      rw [Hm2.out] at h9
      have H9 := Lib.hid h9
      clear h9 hrow
      go_wp2_with fail
      go_end0
      rw [Hk9.out]
      exact ⟨rfl, zs, H9.out, hblk, htn⟩
end
section
open Go.RowKit

set_option maxHeartbeats 3200000 in
set_option maxRecDepth 100000 in
theorem gather_any (g : Nat) (xs rs : List Nat) (k : Nat) (A : Option Addr) (c : Nat) (w : World) (hblk : Blk w g 24 (u64s xs)) (hrx : Rx w g A (u64s rs)) (hk : 1 ≤ k) (hk2 : k ≤ 40) (hxl : xs.length = 2 ^ k) (hrl : rs.length = 2 ^ (k - 1)) (hxp : ∀ v ∈ xs, v < 18446744069414584321) (hrp : ∀ v ∈ rs, v < 18446744069414584321) :
    Calls Tryd.prog 108 #[.slice (some ⟨g, 0, none⟩) xs.length xs.length, .slice A rs.length c] w fun e w' => ∃ zs, e = .returned (.tuple #[]) ∧ Row (gAll (rtsL rs k) k (fl xs)) (2 ^ k) zs ∧ Blk w' g 24 (u64s zs) ∧ Tn g w w' := by
  obtain ⟨N, hN⟩ : ∃ N, N = 2 ^ (k - 1) := ⟨_, rfl⟩
  have hk9 : 2 ^ k = 2 * N := by rw [hN, ← Nat.pow_succ']; congr 1; omega
  have hNb : N ≤ 1099511627776 := by rw [hN, show (1099511627776 : Nat) = 2 ^ 40 from rfl]; exact Nat.pow_le_pow_right (by omega) (by omega)
  have hN0 : 1 ≤ N := by rw [hN]; exact Nat.two_pow_pos _
  obtain ⟨M, hM⟩ : ∃ M, M = 2 * N := ⟨_, rfl⟩
  rw [← hM] at hk9
  have hrow0 : Row (gAll (rtsL rs k) 0 (fl xs)) M xs := ⟨hxl.trans hk9, hxp, fun j hj => by
    show ph xs[j] = ph (xs.getD j 0)
    rw [List.getD_eq_getElem?_getD, List.getElem?_eq_getElem hj]; rfl⟩
  rw [← hN] at hrl
  have hxl2 : xs.length = M := hxl.trans hk9
  have HN := Lib.hid hN
  have Hk9 := Lib.hid hk9
  rw [hxl2, hrl]
  have hgw := hblk.lt
  have q1 : (M : Int) / 2 = (N : Int) := by omega
  have HM := Lib.hid hM
  have hMb : M ≤ 2199023255552 := by omega
  have Hrp : Hid (∀ v ∈ rs, v < 18446744069414584321) := hrp
  have Hrl := Lib.hid hrl
  clear hN hk9 hxl hxl2 hrp hrl hM
  go_enter Tryd.func108, Tryd.ntmps108
  go_wp2_with fail
  go_loopw [4, 5, 6, 7, 8, 9, 10, 11] (fun hv _ _ _ _ _ _ _ wr => ∃ (m h : Nat) (zs : List Nat), m ≤ k ∧ hv = .int .i64 h ∧ Hid (h = 2 ^ m) ∧ 1 ≤ h ∧ Row (gAll (rtsL rs k) m (fl xs)) M zs ∧ Blk wr g 24 (u64s zs) ∧ Tn g w wr) (fun hv _ _ _ _ _ _ _ _ => M - (intOf hv).toNat)
  case atStart => exact ⟨0, 1, xs, by omega, rfl, rfl, by omega, hrow0, hblk, Tn.refl _ _⟩
  case round =>
    clear hrow0 hblk
    obtain ⟨m, h, zs, hm, rfl, Hh, hh1, hrow, hblk, htn⟩ := hrel
    by_cases hmk : m < k
    · have hh := Hh.out
      obtain ⟨D, hD⟩ : ∃ D, D = 2 ^ (k - 1 - m) := ⟨_, rfl⟩
      have hNB : N = h * D := by rw [HN.out, hh, hD, ← Nat.pow_add]; congr 1; omega
      have q2 : (N : Int) / (h : Int) = (D : Int) := by
        rw [hNB]
        have h9 : ((h * D : Nat) : Int) / (h : Int) = ((h * D / h : Nat) : Int) := (Int.natCast_ediv _ _).symm
        rw [h9, Nat.mul_div_cancel_left _ (by omega)]
      have q3 : (N : Int).tdiv (h : Int) = (D : Int) := by rw [Int.tdiv_eq_ediv_of_nonneg (by omega), q2]
      have hDN : D ≤ N := by rw [hNB]; exact Nat.le_mul_of_pos_left _ (by omega)
      have hdv := Lib.hid (show 2 ^ (k - 1) / h = D from by rw [← HN.out, hNB, Nat.mul_div_cancel_left _ (by omega)])
      have hD1 : 1 ≤ D := by rw [hD]; exact Nat.two_pow_pos _
      have hhN : h ≤ N := by rw [hNB]; exact Nat.le_mul_of_pos_right _ hD1
      obtain ⟨h2, hh2⟩ := nameIt (2 * h)
      have q4 : (h : Int) * 2 = (h2 : Int) := by omega
      have hlt2 : h < h2 := by omega
      have hMN := HM.out
      have hhM : h < M := by omega
      have Hh2a : Hid (h2 = 2 ^ (m + 1)) := by
        show h2 = 2 ^ (m + 1)
        rw [hh2, hh, Nat.pow_succ]; omega
      have hh21 : 1 ≤ h2 := by omega
      have hT : gAll (rtsL rs k) (m + 1) (fl xs) = gLay h (rtsL rs k h) (gAll (rtsL rs k) m (fl xs)) := by
        rw [hh]; rfl
      have HT := Lib.hid hT
      obtain ⟨S, hS⟩ : ∃ S, S = gAll (rtsL rs k) m (fl xs) := ⟨_, rfl⟩
      rw [← hS] at hrow HT
      obtain ⟨T, hT2⟩ : ∃ T, T = gLay h (rtsL rs k h) S := ⟨_, rfl⟩
      have HT2 := Lib.hid hT2
      rw [← hT2] at HT
      have HNB := Lib.hid hNB
      have hne : ¬ ((h : Int) = 0) := by omega
      have hne2 : ((h : Int) == 0) = false := by simp; omega
      clear hh hD hNB hh2 hS hT hT2 Hh hMN
      go_wp2_with fail
      go_loopw [6, 7, 8, 9, 10, 11] (fun fv _ _ _ _ _ wr => ∃ (q f : Nat) (zs : List Nat), q ≤ D ∧ fv = .int .i64 f ∧ Hid (f = 2 * h * q) ∧ f ≤ M ∧ Mix S T M f h 0 zs ∧ Blk wr g 24 (u64s zs) ∧ Tn g w wr) (fun fv _ _ _ _ _ _ => M - (intOf fv).toNat)
      case atStart => exact ⟨0, 0, zs, by omega, rfl, rfl, by omega, Mix.start hrow, hblk, htn⟩
      case round =>
        clear hrow hblk htn
        obtain ⟨q, f, zs, hq, rfl, Hf, hfN, hmix, hblk, htn⟩ := hrel
        by_cases hlt : f < M
        · have hqD : q < D := by
            rcases Nat.lt_or_ge q D with h9 | h9
            · exact h9
            · exfalso
              have e1 := Hf.out
              rw [HM.out, HNB.out] at hlt
              have e2 : 2 * h * D ≤ 2 * h * q := Nat.mul_le_mul_left _ h9
              rw [Nat.mul_assoc] at e2
              omega
          have hf2 : f + 2 * h ≤ M := by
            have e1 := Hf.out
            rw [HM.out]
            have e2 : 2 * h * (q + 1) ≤ 2 * h * D := Nat.mul_le_mul_left _ hqD
            rw [Nat.mul_succ, Nat.mul_assoc 2 h D, ← HNB.out] at e2
            omega
          have Hf2 : Hid (f + 2 * h = 2 * h * (q + 1)) := by
            have e1 := Hf.out
            show f + 2 * h = _
            rw [Nat.mul_succ]; omega
          obtain ⟨fh, hfh⟩ := nameIt (f + h)
          obtain ⟨hd, hhd⟩ := nameIt (2 * h)
          obtain ⟨f2, hff2⟩ := nameIt (f + hd)
          have e1 : (f : Int) + (h : Int) = (fh : Int) := by omega
          have e2 : 2 * (h : Int) = (hd : Int) := by omega
          have e3 : (f : Int) + (hd : Int) = (f2 : Int) := by omega
          have ew1 : IntKind.i64.wrap (fh : Int) = (fh : Int) := IntWalk.i64_in _ (by omega)
          have ew2 : IntKind.i64.wrap (hd : Int) = (hd : Int) := IntWalk.i64_in _ (by omega)
          have ew3 : IntKind.i64.wrap (f2 : Int) = (f2 : Int) := IntWalk.i64_in _ (by omega)
          have j2 : fh ≤ M := by omega
          have j3 : f2 ≤ M := by omega
          have j4 : ¬ (M = f) := by omega
          have j5 : ¬ (M = fh) := by omega
          have j6 : f ≤ fh := by omega
          have j7 : fh ≤ f2 := by omega
          have j8 : fh - f = h := by omega
          have j9 : f2 - fh = h := by omega
          have Hfh := Lib.hid hfh
          have Hff2 : Hid (f2 = f + 2 * h) := (by omega : f2 = f + 2 * h)
          clear hfh hhd hff2 hf2
          go_upto_region 7 with (fail)
          go_region_held3 (fun _ => True) (exact trivial) (fail)
          all_goals
            go_wp2_with fail
            go_loopw [9, 10, 11, 47] (fun _ _ _ iv wr => ∃ (i : Nat) (zs : List Nat), i ≤ h ∧ iv = .int .i64 i ∧ Mix S T M f h i zs ∧ Blk wr g 24 (u64s zs) ∧ Tn g w wr) (fun _ _ _ iv _ => h - (intOf iv).toNat)
            case atStart => exact ⟨0, zs, by omega, rfl, hmix, by first | exact hblk | exact hblk.drew, by first | exact htn | exact htn.drew⟩
            case round =>
              clear hmix hblk htn
              obtain ⟨i, zs, hi, rfl, hmix, hblk, htn⟩ := hrel
              by_cases hih : i < h
              · have hfh := Hfh.out
                have hff2 := Hff2.out
                have hzl := hmix.1
                have hix1 : f + i < zs.length := by omega
                have hix2 : fh + i < zs.length := by omega
                obtain ⟨u, hu⟩ : ∃ u, u = zs[f + i] := ⟨_, rfl⟩
                obtain ⟨v0, hv⟩ : ∃ v0, v0 = zs[fh + i] := ⟨_, rfl⟩
                have cu := (hblk.cell (f + i)).trans (u64s_at hix1)
                have cv := (hblk.cell (fh + i)).trans (u64s_at hix2)
                rw [← hu] at cu
                rw [← hv] at cv
                have hup : u < 18446744069414584321 := by rw [hu]; exact p_lt zs hmix.2.1 _ _
                have hvp : v0 < 18446744069414584321 := by rw [hv]; exact p_lt zs hmix.2.1 _ _
                have eu : ph u = S (f + i) := by rw [hu]; exact hmix.old hix1 (by omega) (by omega) (by omega)
                have ev : ph v0 = S (f + h + i) := by rw [hv, show S (f + h + i) = S (fh + i) from by rw [hfh]]; exact hmix.old hix2 (by omega) (by omega) (by omega)
                have fu := hblk.frozen (f + i)
                obtain ⟨ix, hix⟩ : ∃ ix, ix = i * D := ⟨_, rfl⟩
                have hixN : ix < N := by
                  rw [hix, HNB.out]
                  exact Nat.mul_lt_mul_of_pos_right hih hD1
                have e5 : (i : Int) * (D : Int) = (ix : Int) := by rw [hix]; simp
                have ew5 : IntKind.i64.wrap (ix : Int) = (ix : Int) := IntWalk.i64_in _ (by omega)
                have ixr : ix < rs.length := by rw [Hrl.out]; exact hixN
                obtain ⟨b, off, rfl, hbw, hbg, hx⟩ := (hrx.tn htn).at64 ixr
                have hrv : rs[ix] < 18446744069414584321 := Hrp.out _ (List.getElem_mem ixr)
                have ert : ph rs[ix] = rtsL rs k h i := by
                  unfold rtsL
                  rw [hdv.out, ← hix, List.getD_eq_getElem?_getD, List.getElem?_eq_getElem ixr]; rfl
                obtain ⟨r, hre⟩ : ∃ r, r = rs[ix] := ⟨_, rfl⟩
                rw [← hre] at hx hrv ert
                have hmul := fun W => fieldMul_any v0 r (by omega) (by omega) W
                obtain ⟨v, hve⟩ : ∃ v, v = v0 * r % 18446744069414584321 := ⟨_, rfl⟩
                rw [← hve] at hmul
                have hvp2 : v < 18446744069414584321 := by rw [hve]; exact Nat.mod_lt _ (by omega)
                have ev2 : ph v = S (f + h + i) * rtsL rs k h i := by rw [hve, ph_mod, ph_mul, ev, ert]
                obtain ⟨a, hae⟩ : ∃ a, a = (u + v) % 18446744069414584321 := ⟨_, rfl⟩
                obtain ⟨d, hde⟩ := nameIt ((u + 18446744069414584321 - v) % 18446744069414584321)
                have hap : a < 18446744069414584321 := by rw [hae]; exact Nat.mod_lt _ (by omega)
                have hdp : d < 18446744069414584321 := by rw [hde]; exact Nat.mod_lt _ (by omega)
                have hadd := fun W => fieldAdd_any u v hup hvp2 W
                have hsub := fun W => fieldSub_any u v hup hvp2 W
                rw [← hae] at hadd
                rw [← hde] at hsub
                have Hadd := Lib.hid hadd
                have Hsub := Lib.hid hsub
                have ea : ph a = S (f + i) + S (f + h + i) * rtsL rs k h i := by rw [hae, ph_mod, ph_add, eu, ev2]
                have ed : ph d = S (f + i) - S (f + h + i) * rtsL rs k h i := by rw [hde, ph_sub hvp2, eu, ev2]
                have Hmul := Lib.hid hmul
                have hst := hmix.step hih (by omega) hap hdp (by rw [ea, HT2.out, Hf.out, gLay_low _ _ hih]) (by rw [ed, HT2.out, Hf.out, gLay_high _ _ hih])
                rw [← hfh] at hst
                have Hst := Lib.hid hst
                have Hzl := Lib.hid hzl
                have hne9 : ¬ (f + i = fh + i) := by omega
                have hne8 : ¬ (fh + i = f + i) := by omega
                have ji1 : i < M - f := by omega
                have ji2 : i < M - fh := by omega
                have hne10 : ¬ (g = b) := fun e => hbg e.symm
                have hne11 : ¬ (b = g) := hbg
                have cvv := Lib.hid (show ∃ vv, (wr.setCell ⟨g, f + i, none⟩ (.int .u64 (a : Int))).cell? ⟨g, fh + i, none⟩ = some vv from ⟨_, ((hblk.set_ (f + i) (.int .u64 (a : Int))).cell (fh + i)).trans (by rw [u64s_set]; exact u64s_at (by rw [List.length_set]; exact hix2))⟩)
                clear hst hmul hadd hsub hae hde hve hre hix eu ev ev2 ea ed ert hu hv hfh hff2 hzl
                go_upto_region 11 with (fail)
                go_region_held3 (fun W => W.cell? ⟨g, fh + i, none⟩ = some (.int .u64 (v0 : Int)) ∧ W.cell? ⟨b, off + ix, none⟩ = some (.int .u64 (r : Int))) (go_keep) (first
                  | (go_at_call 107; (with_reducible refine (Hmul.out _).mono ?_); rintro e w' ⟨rfl, rfl⟩))
                all_goals
                  go_upto_region 13 with (go_at_call 115; (with_reducible refine (Hadd.out _).mono ?_); rintro e w' ⟨rfl, rfl⟩)
                  have hb1 : Blk (wr.setCell ⟨g, f + i, none⟩ (.int .u64 (a : Int))).drew g 24 (u64s (zs.set (f + i) a)) := by
                    have := (hblk.set_ (f + i) (.int .u64 (a : Int))).drew
                    rwa [u64s_set] at this
                  have htn1 := (htn.setCell (f + i) (.int .u64 (a : Int))).drew
                  obtain ⟨vv, cv1⟩ : ∃ vv, (wr.setCell ⟨g, f + i, none⟩ (.int .u64 (a : Int))).drew.cell? ⟨g, fh + i, none⟩ = some vv := ⟨_, (hb1.cell (fh + i)).trans (u64s_at (by rw [List.length_set]; exact hix2))⟩
                  have fv1 := hb1.frozen (fh + i)
                  obtain ⟨W1, hW1⟩ : ∃ W1, W1 = (wr.setCell ⟨g, f + i, none⟩ (.int .u64 (a : Int))).drew := ⟨_, rfl⟩
                  rw [← hW1] at hb1 htn1 cv1 fv1 ⊢
                  clear hW1 hx cu cv fu cvv
                  go_wp2_with (go_at_call 116; (with_reducible refine (Hsub.out _).mono ?_); rintro e w' ⟨rfl, rfl⟩)
                  go_roundw
                  case rel =>
                    have hb2 := hb1.set_ (fh + i) (.int .u64 (d : Int))
                    rw [u64s_set] at hb2
                    have htn2 := htn1.setCell (fh + i) (.int .u64 (d : Int))
                    exact ⟨i + 1, _, by omega, by go_num, Hst.out, by first | exact hb2 | exact hb2.drew, by first | exact htn2 | exact htn2.drew⟩
                  case measure => simp [intOf]; omega
              · have hih2 : i = h := by omega
                have hmix2 : Mix S T M f2 h 0 zs := by
                  rw [Hff2.out]; rw [hih2] at hmix; exact hmix.next
                have hh9 : h ≤ i := by omega
                clear hih2 hmix
                go_wp2_with fail
                go_roundw
                case rel => exact ⟨q + 1, f2, zs, by omega, rfl, by rw [Hff2.out, Hf2.out]; exact rfl, j3, hmix2, hblk, htn⟩
                case measure => simp [intOf]; omega
        · have hfM : f = M := by omega
          rw [hfM] at hmix
          have hrow := hmix.done
          rw [← HT.out] at hrow
          have hMf : M ≤ f := by omega
          clear hfM hmix
          go_wp2_with fail
          go_roundw
          case rel => exact ⟨m + 1, h2, zs, by omega, rfl, Hh2a, hh21, hrow, hblk, htn⟩
          case measure => simp [intOf]; omega
    · have hm2 : m = k := by omega
      have hh := Hh.out
      rw [hm2, Hk9.out] at hh
      have t1 : M ≤ h := by omega
      have h9 := hrow
      rw [hm2] at h9
      have H9 := Lib.hid h9
      clear h9 hrow hm2 hh
      go_wp2_with fail
      go_end0
      rw [Hk9.out]
      first
        | exact ⟨rfl, zs, H9.out, hblk, htn⟩
        | exact ⟨zs, rfl, H9.out, hblk, htn⟩
end
section
open Go.RowKit

theorem sLay_rt {z9 : Nat} {h : Nat} (hh : 0 < h) (rt ru x : Nat → Fin z9) (e : ∀ i, i < h → rt i = ru i) : sLay h rt x = sLay h ru x := by
  funext j
  unfold sLay
  split
  · rfl
  · rw [e _ (by have := Nat.mod_lt j (show 0 < 2 * h by omega); omega)]
theorem gLay_rt {z9 : Nat} {h : Nat} (hh : 0 < h) (rt ru x : Nat → Fin z9) (e : ∀ i, i < h → rt i = ru i) : gLay h rt x = gLay h ru x := by
  funext j
  unfold gLay
  split
  · rename_i hj; rw [e _ hj]
  · rw [e _ (by have := Nat.mod_lt j (show 0 < 2 * h by omega); omega)]
theorem sAll_rt {z9 : Nat} {k : Nat} (rts rus : Nat → Nat → Fin z9) (x : Nat → Fin z9) (e : ∀ j i, j < k → i < 2 ^ j → rts (2 ^ j) i = rus (2 ^ j) i) (m : Nat) (hm : m ≤ k) : sAll rts k m x = sAll rus k m x := by
  induction m with
  | zero => rfl
  | succ m ih =>
    show sLay _ _ (sAll rts k m x) = sLay _ _ (sAll rus k m x)
    rw [ih (by omega)]
    exact sLay_rt (Nat.two_pow_pos _) _ _ _ fun i hi => e _ i (by omega) hi
theorem gAll_rt {z9 : Nat} {k : Nat} (rts rus : Nat → Nat → Fin z9) (x : Nat → Fin z9) (e : ∀ j i, j < k → i < 2 ^ j → rts (2 ^ j) i = rus (2 ^ j) i) (m : Nat) (hm : m ≤ k) : gAll rts m x = gAll rus m x := by
  induction m with
  | zero => rfl
  | succ m ih =>
    show gLay _ _ (gAll rts m x) = gLay _ _ (gAll rus m x)
    rw [ih (by omega)]
    exact gLay_rt (Nat.two_pow_pos _) _ _ _ fun i hi => e _ i (by omega) hi
/-- What rootsOf makes is the roots of each layer. -/
theorem rtsL_of {rs : List Nat} {k r e : Nat} (hr : r = 7 ^ e % 18446744069414584321) (hl : rs.length = 2 ^ (k - 1)) (hz : ∀ i (hi : i < rs.length), rs[i] = r ^ i % 18446744069414584321) : ∀ j i, j < k → i < 2 ^ j → rtsL rs k (2 ^ j) i = rtsOf (ph 7 ^ e) k (2 ^ j) i := by
  intro j i hj hi
  unfold rtsL rtsOf
  have hix : i * (2 ^ (k - 1) / 2 ^ j) < rs.length := by
    rw [hl, half_div hj]
    calc i * 2 ^ (k - 1 - j) < 2 ^ j * 2 ^ (k - 1 - j) := Nat.mul_lt_mul_of_pos_right hi (Nat.two_pow_pos _)
      _ = 2 ^ (k - 1) := by rw [← Nat.pow_add]; congr 1; omega
  rw [List.getD_eq_getElem?_getD, List.getElem?_eq_getElem hix]
  show ph rs[i * (2 ^ (k - 1) / 2 ^ j)] = _
  rw [hz _ hix, ph_mod, ph_pow, hr, ph_mod, ph_pow]
theorem fl_pad (xs : List Nat) (m : Nat) : fl (xs ++ List.replicate m 0) = fl xs := by
  funext i
  unfold fl
  congr 1
  rw [List.getD_eq_getElem?_getD, List.getD_eq_getElem?_getD]
  by_cases h : i < xs.length
  · rw [List.getElem?_append_left h]
  · rw [List.getElem?_append_right (by omega), List.getElem?_eq_none (l := xs) (by omega), List.getElem?_replicate]
    split <;> rfl
theorem rootE_lt (k : Nat) : rootE k < 18446744073709551616 := by
  unfold rootE
  exact Nat.lt_of_le_of_lt (Nat.div_le_self _ _) (by omega)
theorem pad_lt {ds : List Nat} (h : ∀ v ∈ ds, v ≤ 65535) (m : Nat) : ∀ v ∈ ds ++ List.replicate m 0, v < 18446744069414584321 := fun v hv => by
  rcases List.mem_append.1 hv with hv | hv
  · have := h v hv; omega
  · rw [(List.mem_replicate.1 hv).2]; omega
theorem val_take_pad (b : Nat) (zs : List Nat) (n : Nat) (_ : zs.length ≤ n) : val b (zs ++ List.replicate (n - zs.length) 0) = val b zs := by
  rw [val_append, val_zeros]; simp
theorem val_addP (b : Nat) (xs ys : List Nat) : val b (addP xs ys) = val b xs + val b ys := by
  induction xs generalizing ys with
  | nil => simp [addP, val]
  | cons x xs ih => cases ys with
    | nil => simp [addP, val]
    | cons y ys => simp only [addP, val, ih, Nat.mul_add]; omega
theorem val_mapP (b x : Nat) (ys : List Nat) : val b (ys.map (x * ·)) = x * val b ys := by
  induction ys with
  | nil => simp [val]
  | cons y ys ih => simp only [List.map_cons, val, ih, Nat.mul_add]; rw [Nat.mul_left_comm]
theorem val_mulL (b : Nat) (xs ys : List Nat) : val b (mulL xs ys) = val b xs * val b ys := by
  induction xs with
  | nil => rw [mulL, val_zeros]; simp [val]
  | cons x xs ih => simp only [mulL, val_addP, val_mapP, val, ih, Nat.add_mul]; rw [Nat.zero_add, Nat.mul_assoc]

/-- What the row of products is: each place the product of both. -/
def Prod (S T : Nat → FP) (n i : Nat) (zs : List Nat) : Prop :=
  zs.length = n ∧ (∀ v ∈ zs, v < 18446744069414584321) ∧ ∀ j (hj : j < zs.length), ph zs[j] = if j < i then S j * T j else S j
theorem Prod.start {S T : Nat → FP} {n : Nat} {zs : List Nat} (h : Row S n zs) : Prod S T n 0 zs := ⟨h.1, h.2.1, fun j hj => by rw [if_neg (by omega)]; exact h.2.2 j hj⟩
theorem Prod.step {S T : Nat → FP} {n i a : Nat} {zs : List Nat} (h : Prod S T n i zs) (ha : a < 18446744069414584321) (ea : ph a = S i * T i) : Prod S T n (i + 1) (zs.set i a) := by
  refine ⟨by simpa using h.1, fun v hv => ?_, fun j hj => ?_⟩
  · rcases List.mem_or_eq_of_mem_set hv with hv | rfl
    · exact h.2.1 v hv
    · exact ha
  · rw [List.getElem_set]
    split
    · rename_i e; subst e; rw [if_pos (by omega)]; exact ea
    · rw [h.2.2 j (by simpa using hj)]
      by_cases h1 : j < i
      · rw [if_pos h1, if_pos (by omega)]
      · rw [if_neg h1, if_neg (by omega)]
theorem Prod.done {S T : Nat → FP} {n : Nat} {zs : List Nat} (h : Prod S T n n zs) : Row (fun j => if j < n then S j * T j else 0) n zs := ⟨h.1, h.2.1, fun j hj => by
  have h1 := h.1
  rw [h.2.2 j hj, if_pos (by omega)]
  show _ = if j < n then S j * T j else 0
  rw [if_pos (by omega)]⟩
theorem fl_row {S : Nat → FP} {n : Nat} {zs : List Nat} (h : Row S n zs) : ∀ j, j < n → fl zs j = S j := fun j hj => by
  have hj2 : j < zs.length := by rw [h.1]; exact hj
  rw [← h.2.2 j hj2]
  unfold fl
  rw [List.getD_eq_getElem?_getD, List.getElem?_eq_getElem hj2]; rfl
end
end Go.Proofs.YtogkfpbapjjgfaaDoor
