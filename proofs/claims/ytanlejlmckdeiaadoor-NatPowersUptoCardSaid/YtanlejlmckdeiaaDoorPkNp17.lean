/- The contract of nat.Pow. Conditions: at most 2^26 limbs; the library's table as it is laid where a power is told; the power has few bits. -/
import Derived.Test.YtanlejlmckdeiaaDoorPkNp14
import Derived.Test.YtanlejlmckdeiaaDoorPkNp15
import Derived.Test.YtanlejlmckdeiaaDoorPkNp16
namespace Go.Proofs.YtanlejlmckdeiaaDoor
open Go.RowKit

/-- What a power answers where it is told. -/
def PwE (w w' : World) (n : Nat) (v : Value) (e : Ending) : Prop := ∃ zs A' c', e = .returned (.tuple #[.slice A' zs.length c', v]) ∧ Num 4294967296 zs n ∧ Res w' w.heap.size 36 A' c' (u32s zs) ∧ Below w.heap.size w w'
/-- What it answers where it isn't. -/
def PwF (w w' : World) (v : Value) (e : Ending) : Prop := e = .returned (.tuple #[.slice none 0 0, v]) ∧ Below w.heap.size w w'

section
variable {w : World} {A : Option Addr} {c a K : Nat} {xs : List Nat}
theorem npow_neg (h : Hv w A c xs a K) (hK : K ≤ 67108864) (k : Int) (hk : k < 0) : Calls Tryd.prog 10 #[.slice A xs.length c, .int .i64 k] w fun e w' => PwF w w' (.int .i64 1) e := by
  have hlen := h.len
  have T0 := Lib.hid (trim_any A c xs w w.heap.size h.rd h.cap (by omega))
  have t1 : decide (k < 0) = true := decide_eq_true hk
  clear h
  go_enter Tryd.func10, Tryd.ntmps10
  go_wp2_with (go_at_call 13; (with_reducible refine T0.out.mono ?_); rintro e w' ⟨rfl, rfl⟩)
  go_ret2
  exact ⟨rfl, Below.refl _ _⟩
theorem quo_gt {k b : Nat} (hb : 2 ≤ b) : ((67108863 : Int) / ((b : Int) - 1) < (k : Int)) ↔ 67108864 ≤ k * (b - 1) := by
  obtain ⟨d, rfl⟩ : ∃ d, b = d + 1 := ⟨b - 1, by omega⟩
  have e1 : ((d + 1 : Nat) : Int) - 1 = (d : Int) := by omega
  rw [e1, Nat.add_sub_cancel, show (67108863 : Int) = ((67108863 : Nat) : Int) from rfl, ← Int.natCast_ediv, Int.ofNat_lt, Nat.div_lt_iff_lt_mul (by omega)]
  omega
theorem npow_big (h : Hv w A c xs a K) (hK : K ≤ 67108864) (k : Nat) (hk : k < 9223372036854775808) (hb : 2 ≤ bitsOf a) (hbig : 67108864 ≤ k * (bitsOf a - 1)) : Calls Tryd.prog 10 #[.slice A xs.length c, .int .i64 (k : Int)] w fun e w' => PwF w w' (.int .i64 4) e := by
  have hlen := h.len
  have T0 := Lib.hid (trim_any A c xs w w.heap.size h.rd h.cap (by omega))
  have hn : Num 4294967296 (trimL xs) a := by rw [← h.val_]; exact Num.of_trim h.dig
  have hl := trimL_length_le xs
  have hrt : Rd w w.heap.size A (u32s (trimL xs)) := by rw [u32s_trim]; exact h.rd.take _
  have hbl := bits_limbs h.lt
  have L1 := Lib.hid (len_any A c (trimL xs) w w.heap.size hrt hn.1 (by have := h.cap; omega) (by omega))
  rw [hn.2.2] at L1
  have hk0 : k ≠ 0 := by rintro rfl; omega
  have hq := (quo_gt (k := k) hb).2 hbig
  obtain ⟨b, hbe⟩ : ∃ b, b = bitsOf a := ⟨_, rfl⟩
  rw [← hbe] at L1 hb hbl hq
  obtain ⟨ps, hps⟩ : ∃ ps, ps = trimL xs := ⟨_, rfl⟩
  rw [← hps] at T0 L1
  have t0 : ((k : Int) == 0) = false := beq_eq_false_iff_ne.2 (by omega)
  have t1 : decide ((b : Int) ≤ 1) = false := decide_eq_false (by omega)
  have t1b : decide (b ≤ 1) = false := decide_eq_false (by omega)
  have t3 : ((b : Int) - 1 == 0) = false := beq_eq_false_iff_ne.2 (by omega)
  have t2 : decide ((67108863 : Int) / ((b : Int) - 1) < (k : Int)) = true := decide_eq_true hq
  clear h hn hrt hbig hbe hps hq hlen hl
  go_enter Tryd.func10, Tryd.ntmps10
  go_wp2_with (first
    | (go_at_call 13; (with_reducible refine T0.out.mono ?_); rintro e w' ⟨rfl, rfl⟩)
    | (go_at_call 17; (with_reducible refine L1.out.mono ?_); rintro e w' ⟨rfl, rfl⟩))
  go_ret2
  exact ⟨rfl, Below.refl _ _⟩
theorem pow_bits {a k : Nat} : bitsOf (a ^ k) ≤ bitsOf a * k + 1 := by
  rw [bits_le_iff, Nat.pow_succ, Nat.pow_mul]
  have h1 : a ^ k ≤ (2 ^ bitsOf a) ^ k := Nat.pow_le_pow_left (Nat.le_of_lt bits_lt) k
  have := Nat.pow_pos (n := k) (Nat.two_pow_pos (bitsOf a))
  omega
theorem pow_limbs {a k : Nat} (h : bitsOf a * k ≤ 40000) : ∃ N, N ≤ 2000 ∧ a ^ k < 4294967296 ^ N ∧ bitsOf (a ^ k) ≤ 32 * N := by
  obtain ⟨N, hN⟩ : ∃ N, N = 1251 := ⟨_, rfl⟩
  have h1 : a ^ k ≤ (2 ^ bitsOf a) ^ k := Nat.pow_le_pow_left (Nat.le_of_lt bits_lt) k
  rw [← Nat.pow_mul] at h1
  have h2 : 2 ^ (bitsOf a * k) < 2 ^ (32 * N) := Nat.pow_lt_pow_right (by omega) (by omega)
  refine ⟨N, by omega, ?_, ?_⟩
  · rw [show (4294967296 : Nat) = 2 ^ 32 from rfl, ← Nat.pow_mul]; omega
  · rw [bits_le_iff]; omega
theorem small_pow {a k : Nat} (hk : k ≠ 0) (h : bitsOf a ≤ 1) : a ^ k = a := by
  have : a < 2 := by
    have := (bits_le_iff (n := a) (b := 1)).1 h
    omega
  have h2 : a = 0 ∨ a = 1 := by omega
  rcases h2 with rfl | rfl
  · exact Nat.zero_pow (by omega)
  · exact Nat.one_pow _
set_option maxHeartbeats 3200000 in
theorem npow_zero (h : Hv w A c xs a K) (hK : K ≤ 67108864) : Calls Tryd.prog 10 #[.slice A xs.length c, .int .i64 0] w fun e w' => PwE w w' (a ^ 0) (.int .i64 0) e := by
  have hlen := h.len
  have T0 := Lib.hid (trim_any A c xs w w.heap.size h.rd h.cap (by omega))
  clear h
  go_enter Tryd.func10, Tryd.ntmps10
  go_wp2_with (first
    | (go_at_call 13; (with_reducible refine T0.out.mono ?_); rintro e w' ⟨rfl, rfl⟩)
    | (go_at_call 14; (refine (of_any 1 (by decide) _).mono ?_); rintro e w1 ⟨zs, A1, c1, rfl, hz, hr, hb⟩))
  go_ret2
  exact ⟨zs, A1, c1, rfl, hz, hr, hb⟩
set_option maxHeartbeats 3200000 in
theorem npow_little (h : Hv w A c xs a K) (hK : K ≤ 67108864) (k : Nat) (hk0 : k ≠ 0) (_ : k < 9223372036854775808) (hb : bitsOf a ≤ 1) : Calls Tryd.prog 10 #[.slice A xs.length c, .int .i64 (k : Int)] w fun e w' => PwE w w' (a ^ k) (.int .i64 0) e := by
  rw [small_pow hk0 hb]
  have hlen := h.len
  have hl := trimL_length_le xs
  have T0 := Lib.hid (trim_any A c xs w w.heap.size h.rd h.cap (by omega))
  have hn : Num 4294967296 (trimL xs) a := by rw [← h.val_]; exact Num.of_trim h.dig
  have hrt : Rd w w.heap.size A (u32s (trimL xs)) := by rw [u32s_trim]; exact h.rd.take _
  have L1 := Lib.hid (len_any A c (trimL xs) w w.heap.size hrt hn.1 (by have := h.cap; omega) (by omega))
  have N1 := Lib.hid (norm_any A c (trimL xs) w w.heap.size hrt (Nat.le_refl _) (by have := h.cap; omega) (by omega))
  rw [hn.2.2] at L1
  rw [hn.2.1] at N1
  obtain ⟨b, hbe⟩ : ∃ b, b = bitsOf a := ⟨_, rfl⟩
  rw [← hbe] at L1 hb
  obtain ⟨ps, hps⟩ : ∃ ps, ps = trimL xs := ⟨_, rfl⟩
  rw [← hps] at T0 L1 N1 hn
  have t0 : ((k : Int) == 0) = false := beq_eq_false_iff_ne.2 (by omega)
  have t1 : decide ((b : Int) ≤ 1) = true := decide_eq_true (by omega)
  have t1b : decide (b ≤ 1) = true := decide_eq_true (by omega)
  have Hn := Lib.hid hn
  clear h hn hrt hbe hps hlen hl
  go_enter Tryd.func10, Tryd.ntmps10
  go_wp2_with (first
    | (go_at_call 13; (with_reducible refine T0.out.mono ?_); rintro e w' ⟨rfl, rfl⟩)
    | (go_at_call 17; (with_reducible refine L1.out.mono ?_); rintro e w' ⟨rfl, rfl⟩)
    | (go_at_call 30; (with_reducible refine N1.out.mono ?_); rintro e w1 ⟨A1, c1, rfl, hr1, hb1⟩))
  go_ret2
  exact ⟨ps, A1, c1, rfl, Hn.out, hr1, hb1⟩
set_option maxHeartbeats 6400000 in
theorem npow_ok (h : Hv w A c xs a K) (hK : K ≤ 67108863) (k : Nat) (hk0 : k ≠ 0) (hb : 2 ≤ bitsOf a) (hs : bitsOf a * k ≤ 40000) (hT : Tab32 w) (_ : 0 < w.heap.size) : Calls Tryd.prog 10 #[.slice A xs.length c, .int .i64 (k : Int)] w fun e w' => PwE w w' (a ^ k) (.int .i64 0) e := by
  have hlen := h.len
  have hl := trimL_length_le xs
  have T0 := Lib.hid (trim_any A c xs w w.heap.size h.rd h.cap (by omega))
  have hn : Num 4294967296 (trimL xs) a := by rw [← h.val_]; exact Num.of_trim h.dig
  have hrt : Rd w w.heap.size A (u32s (trimL xs)) := by rw [u32s_trim]; exact h.rd.take _
  have L1 := Lib.hid (len_any A c (trimL xs) w w.heap.size hrt hn.1 (by have := h.cap; omega) (by omega))
  obtain ⟨t, ht⟩ := trail_exists (trimL xs)
  have hdv := ht.dvd hn.1
  rw [hn.2.2] at L1 hdv
  have R0 := Lib.hid (trail_fix A c (trimL xs) t ht w w.heap.size hrt hn.1 (by omega) hT)
  have R1 := Lib.hid (right_any A c (trimL xs) (t : Int) w w.heap.size hrt (Nat.le_refl _) hn.1 (by have := h.cap; omega) (by omega) (by
    rcases ht with ⟨h1, _, _⟩ | ⟨rfl, _⟩
    · omega
    · decide))
  rw [hn.2.2] at R1
  have ha : 0 < a := by
    rcases Nat.eq_zero_or_pos a with h0 | h0
    · subst h0; revert hb; decide
    · exact h0
  obtain ⟨o, ho⟩ := hdv
  have ho1 : 1 ≤ o := by
    rcases Nat.eq_zero_or_pos o with h0 | h0
    · subst h0; rw [Nat.mul_zero] at ho; omega
    · exact h0
  have hdiv : a / 2 ^ t = o := by rw [ho]; exact Nat.mul_div_cancel_left _ (Nat.two_pow_pos t)
  have hoa : o ≤ a := by rw [ho]; exact Nat.le_mul_of_pos_left _ (Nat.two_pow_pos t)
  have htb : t < bitsOf a := by
    rcases Nat.lt_or_ge t (bitsOf a) with g | g
    · exact g
    · have h1 : a < 2 ^ t := Nat.lt_of_lt_of_le bits_lt (Nat.pow_le_pow_right (by omega) g)
      have : 2 ^ t ≤ a := by rw [ho]; exact Nat.le_mul_of_pos_right _ (by omega)
      omega
  have hkt : k * t ≤ 40000 := by
    have h1 : k * t ≤ k * bitsOf a := Nat.mul_le_mul_left k (by omega)
    rw [Nat.mul_comm k (bitsOf a)] at h1
    omega
  have hok : o ^ k ≤ a ^ k := Nat.pow_le_pow_left hoa k
  obtain ⟨N, hN1, hN2, hN3⟩ := pow_limbs hs
  have hPow : o ^ k * 2 ^ (k * t) = a ^ k := by
    rw [ho, Nat.mul_pow, ← Nat.pow_mul, Nat.mul_comm t k, Nat.mul_comm]
  have hbo : bitsOf (o ^ k) ≤ 32 * N := by
    have h1 := (bits_le_iff (n := a ^ k)).1 hN3
    rw [bits_le_iff]
    omega
  have hkl : k ≤ 40000 := by
    have : 1 * k ≤ bitsOf a * k := Nat.mul_le_mul_right k (by omega)
    omega
  have hb40 : bitsOf a ≤ 40000 := by
    have : bitsOf a * 1 ≤ bitsOf a * k := Nat.mul_le_mul_left _ (by omega)
    omega
  have hq : ¬ ((67108863 : Int) / ((bitsOf a : Int) - 1) < (k : Int)) := by
    rw [quo_gt hb]
    have h1 : k * (bitsOf a - 1) ≤ k * bitsOf a := Nat.mul_le_mul_left k (by omega)
    rw [Nat.mul_comm k (bitsOf a)] at h1
    omega
  obtain ⟨b, hbe⟩ : ∃ b, b = bitsOf a := ⟨_, rfl⟩
  rw [← hbe] at L1 hb hq hb40
  obtain ⟨ps, hps⟩ : ∃ ps, ps = trimL xs := ⟨_, rfl⟩
  rw [← hps] at T0 L1 R0 R1
  unfold RightOut at R1
  rw [if_neg (by omega), if_neg (by omega), Int.toNat_natCast, hdiv] at R1
  obtain ⟨B, hB⟩ : ∃ B, B = bitsOf (o ^ k) := ⟨_, rfl⟩
  have LT := Nat.lt_of_le_of_lt hok hN2
  obtain ⟨q, hqe⟩ : ∃ q, q = o ^ k := ⟨_, rfl⟩
  rw [← hB] at hbo
  rw [← hqe] at hPow hB LT
  have hkt2 : (k : Int) * (t : Int) = ((k * t : Nat) : Int) := by simp
  obtain ⟨m, hm⟩ : ∃ m, m = k * t := ⟨_, rfl⟩
  rw [← hm] at hkt hPow hkt2
  have POW : Hid (∀ (os : List Nat) (A1 : Option Addr) (c1 : Nat) (W : World), Num 4294967296 os o → Res W w.heap.size 36 A1 c1 (u32s os) → Calls Tryd.prog 32 #[.slice A1 os.length c1, .int .i64 (k : Int)] W fun e w' => PwOut W w' q e) := fun os A1 c1 W hz hr => by
    rw [hqe]
    have hol : o < 4294967296 ^ K := Nat.lt_of_le_of_lt hoa h.lt
    exact power_any (Hv.of hz hr hol) (by omega) ho1 (by omega) (by omega) (by rw [← hqe]; exact LT) (by omega)
  have LEN : Hid (∀ (zs : List Nat) (A2 : Option Addr) (c2 B9 : Nat) (W : World), Num 4294967296 zs q → Res W B9 36 A2 c2 (u32s zs) → Calls Tryd.prog 17 #[.slice A2 zs.length c2] W fun e w' => e = .returned (.int .i64 (B : Nat)) ∧ W = w') := fun zs A2 c2 B9 W hz hr => by
    rw [hB]
    exact (Hv.of (K := N) hz hr LT).nlen (by omega)
  have SHU : Hid (∀ (zs : List Nat) (A2 : Option Addr) (c2 B9 : Nat) (W : World), Num 4294967296 zs q → Res W B9 36 A2 c2 (u32s zs) → Calls Tryd.prog 19 #[.slice A2 zs.length c2, .int .i64 (m : Int)] W fun e w' => PwOut W w' (a ^ k) e) := fun zs A2 c2 B9 W hz hr => by
    have hv := Hv.of (K := N) hz hr LT
    have := shiftUp_any A2 c2 zs m (m / 32) (m % 32) W W.heap.size hv.rd (Nat.le_refl _) hz.1 (by omega) (by omega) (by have := hv.len; omega)
    rw [hz.2.2, hPow] at this
    exact this
  have t0 : ((k : Int) == 0) = false := beq_eq_false_iff_ne.2 (by omega)
  have t1 : decide ((b : Int) ≤ 1) = false := decide_eq_false (by omega)
  have t1b : decide (b ≤ 1) = false := decide_eq_false (by omega)
  have t3 : ((b : Int) - 1 == 0) = false := beq_eq_false_iff_ne.2 (by omega)
  have t2 : decide ((67108863 : Int) / ((b : Int) - 1) < (k : Int)) = false := decide_eq_false hq
  have t4 : decide (67108864 < (B : Int) + (m : Int)) = false := decide_eq_false (by omega)
  clear h hn hrt hps hlen hl hT ht ho ho1 hdiv hoa htb hok hPow hN2 hN3 hq hbe LT hqe ha hs hm
  go_enter Tryd.func10, Tryd.ntmps10
  go_wp2_with (first
    | (go_at_call 13; (with_reducible refine T0.out.mono ?_); rintro e w' ⟨rfl, rfl⟩)
    | (go_at_call_of 17 (Value.slice A ps.length c); (with_reducible refine L1.out.mono ?_); rintro e w' ⟨rfl, rfl⟩)
    | (go_at_call 31; (with_reducible refine R0.out.mono ?_); rintro e w' ⟨rfl, rfl⟩)
    | (go_at_call 18; (with_reducible refine R1.out.mono ?_); rintro e w1 ⟨os, A1, c1, rfl, hz1, hr1, hb1⟩)
    | (go_at_call 32; (with_reducible refine (POW.out os A1 c1 _ hz1 hr1).mono ?_); rintro e w2 ⟨zs, A2, c2, rfl, hz2, hr2, hb2⟩)
    | (go_at_call 17; (with_reducible refine (LEN.out zs A2 c2 _ _ hz2 hr2).mono ?_); rintro e w' ⟨rfl, rfl⟩)
    | (go_at_call 19; (with_reducible refine (SHU.out zs A2 c2 _ _ hz2 hr2).mono ?_); rintro e w3 ⟨zt, A3, c3, rfl, hz3, hr3, hb3⟩)
    | simp only [])
  have k2 : Below w.heap.size w w2 := hb1.trans (hb2.mono hb1.size)
  go_ret2
  exact ⟨zt, A3, c3, rfl, hz3, hr3.mono k2.size, k2.trans (hb3.mono k2.size)⟩
end
end Go.Proofs.YtanlejlmckdeiaaDoor
