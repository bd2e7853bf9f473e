/- The contract of Right. The contract of nat.Pow. The contract of the reference's Pow. The contracts of zint.Pow and of the reference's Pow, over c. -/
import Derived.Test.YtbcphifjcaobfaaGreatDoorPkRp41
import Derived.Test.YtbcphifjcaobfaaGreatDoorPkRp40
import Derived.Test.YtbcphifjcaobfaaGreatDoorPkRp22
import Derived.Test.YtbcphifjcaobfaaGreatDoorPkRp29
import Derived.Test.YtbcphifjcaobfaaGreatDoorPkRp30
namespace Go.Proofs.YtbcphifjcaobfaaGreatDoor
section
open Go.RowKit
def RightOut (w w' : World) (m : Nat) (n : Int) (e : Ending) : Prop :=
 ∃ zs A' c', e = .returned (.tuple #[.slice A' zs.length c', .int .i64 (if n < 0 then 1 else 0)]) ∧ Num 4294967296 zs (if n < 0 then 0 else m / 2 ^ n.toNat) ∧ Res w' w.heap.size 50 A' c' (u32s zs) ∧ Below w.heap.size w w'
set_option maxHeartbeats 400000 in
theorem right_any (A : Option Addr) (c : Nat) (xs : List Nat) (n : Int) (w : World) (B : Nat) (hr : Rd w B A (u32s xs)) (hB : B ≤ w.heap.size) (hd : Dig 4294967296 xs) (hc : xs.length ≤ c) (hm : xs.length ≤ 70368744177664) (hn : n ≤ 9223372036854775807) :
  Calls Tryz.prog 151 #[.slice A xs.length c, .int .i64 n] w fun e w' => RightOut w w' (val 4294967296 xs) n e := by
 have hmm : xs.length ≤ 281474976710656 := by omega
 rcases Int.lt_or_le n 0 with h0 | h0
 ·go_enter Tryz.func151, Tryz.ntmps151
  go_wp2_with (go_at_call 128; (with_reducible refine (trim_any A c xs _ B hr hc hmm).mono ?_); rintro e w' ⟨rfl, rfl⟩)
  go_ret2
  exact ⟨[], none, 0, by rw [if_pos h0]; rfl, by rw [if_pos h0]; exact Num.zero_ _, Res.none_, br9⟩
 ·obtain ⟨k, rfl⟩ := Int.eq_ofNat_of_zero_le h0
  have hl := trimL_length_le xs
  rcases Nat.lt_or_ge (k / 32) (trimL xs).length with hlt | hge
  ·refine (right_walk A c xs (trimL xs) k (k / 32) (k % 32) w B hr hB hc rfl hd.trim_ (by omega) (by omega) hlt hm).mono ?_
   rintro e w' ⟨zs, A', c', rfl, hz, hres, hb⟩
   exact ⟨zs, A', c', by rw [if_neg (by omega)], by rw [if_neg (by omega), Int.toNat_natCast, ← val_trim]; exact hz, hres, hb⟩
  ·have t0 : (trimL xs).length ≤ k / 32 := hge
   have hz : val 4294967296 xs / 2 ^ k = 0 := by
    rw [← val_trim]
    refine Nat.div_eq_of_lt (Nat.lt_of_lt_of_le (val_lt _ _ hd.trim_) ?_)
    rw [show (4294967296 : Nat) = 2 ^ 32 from rfl, ← Nat.pow_mul]
    exact Nat.pow_le_pow_right (by omega) (by omega)
   have Hz := hi9 hz
   clear hz
   have kb : k ≤ 9223372036854775807 := by omega
   have t1 : decide (((trimL xs).length : Int) ≤ (k : Int) / 32) = true := by simp; omega
   go_enter Tryz.func151, Tryz.ntmps151
   go_wp2_with (go_at_call 128; (with_reducible refine (trim_any A c xs _ B hr hc hmm).mono ?_); rintro e w' ⟨rfl, rfl⟩)
   go_ret2
   exact ⟨[], none, 0, by rw [if_neg (by omega)]; rfl, by rw [if_neg (by omega), Int.toNat_natCast, Hz.out]; exact Num.zero_ _, Res.none_, br9⟩
end
section
open Go.RowKit
def PwE (w w' : World) (n : Nat) (v : Value) (e : Ending) : Prop := ∃ zs A' c', e = .returned (.tuple #[.slice A' zs.length c', v]) ∧ Num 4294967296 zs n ∧ Res w' w.heap.size 50 A' c' (u32s zs) ∧ Below w.heap.size w w'
def PwF (w w' : World) (v : Value) (e : Ending) : Prop := e = .returned (.tuple #[.slice none 0 0, v]) ∧ Below w.heap.size w w'
section
variable {w : World} {A : Option Addr} {c a K : Nat} {xs : List Nat}
theorem quo_gt {k b : Nat} (hb : 2 ≤ b) : ((67108863 : Int) / ((b : Int) - 1) < (k : Int)) ↔ 67108864 ≤ k * (b - 1) := by
 obtain ⟨d, rfl⟩ : ∃ d, b = d + 1 := ⟨b - 1, by omega⟩
 have e1 : ((d + 1 : Nat) : Int) - 1 = (d : Int) := by omega
 rw [e1, Nat.add_sub_cancel, show (67108863 : Int) = ((67108863 : Nat) : Int) from rfl, ← Int.natCast_ediv, Int.ofNat_lt, Nat.div_lt_iff_lt_mul (by omega)]
 omega
theorem npow_big (h : Hv w A c xs a K) (hK : K ≤ 67108864) (k : Nat) (hk : k < 9223372036854775808) (hb : 2 ≤ bitsOf a) (hbig : 67108864 ≤ k * (bitsOf a - 1)) : Calls Tryz.prog 123 #[.slice A xs.length c, .int .i64 (k : Int)] w fun e w' => PwF w w' (.int .i64 4) e := by
 have hlen := h.len
 have T0 := hi9 (trim_any A c xs w w.heap.size h.rd h.cap (by omega))
 have hn : Num 4294967296 (trimL xs) a := by rw [← h.val_]; exact Num.of_trim h.dig
 have hl := trimL_length_le xs
 have hrt : Rd w w.heap.size A (u32s (trimL xs)) := by rw [u32s_trim]; exact h.rd.take _
 have hbl := bits_limbs h.lt
 have L1 := hi9 (len_any A c (trimL xs) w w.heap.size hrt hn.1 (by have := h.cap; omega) (by omega))
 rw [hn.2.2] at L1
 have hk0 : k ≠ 0 := by rintro rfl; omega
 have hq := (quo_gt (k := k) hb).2 hbig
 obtain ⟨b, hbe⟩ : ∃ b, b = bitsOf a := ⟨_, rfl⟩
 rw [← hbe] at L1 hb hbl hq
 obtain ⟨ps, hps⟩ : ∃ ps, ps = trimL xs := ⟨_, rfl⟩
 rw [← hps] at T0 L1
 have t0 : ((k : Int) == 0) = false := beq_eq_false_iff_ne.2 (by omega)
 have t1 : decide ((b : Int) ≤ 1) = false := decide_eq_false (by omega)
 have t1b : decide (b ≤ 1) = false := decide_eq_false (by omega)
 have t3 : ((b : Int) - 1 == 0) = false := beq_eq_false_iff_ne.2 (by omega)
 have t2 : decide ((67108863 : Int) / ((b : Int) - 1) < (k : Int)) = true := decide_eq_true hq
 clear h hn hrt hbig hbe hps hq hlen hl
 go_enter Tryz.func123, Tryz.ntmps123
 go_wp2_with (first
  | (go_at_call 128; (with_reducible refine T0.out.mono ?_); rintro e w' ⟨rfl, rfl⟩)
  | (go_at_call 97; (with_reducible refine L1.out.mono ?_); rintro e w' ⟨rfl, rfl⟩))
 go_ret2
 exact ⟨rfl, br9⟩
theorem pow_limbs {a k : Nat} (h : bitsOf a * k ≤ 40000) : ∃ N, N ≤ 2000 ∧ a ^ k < 4294967296 ^ N ∧ bitsOf (a ^ k) ≤ 32 * N := by
 obtain ⟨N, hN⟩ : ∃ N, N = 1251 := ⟨_, rfl⟩
 have h1 : a ^ k ≤ (2 ^ bitsOf a) ^ k := Nat.pow_le_pow_left (Nat.le_of_lt bits_lt) k
 rw [← Nat.pow_mul] at h1
 have h2 : 2 ^ (bitsOf a * k) < 2 ^ (32 * N) := Nat.pow_lt_pow_right (by omega) (by omega)
 refine ⟨N, by omega, ?_, ?_⟩
 ·rw [show (4294967296 : Nat) = 2 ^ 32 from rfl, ← Nat.pow_mul]; omega
 ·rw [bits_le_iff]; omega
theorem small_pow {a k : Nat} (hk : k ≠ 0) (h : bitsOf a ≤ 1) : a ^ k = a := by
 have : a < 2 := by
  have := (bits_le_iff (n := a) (b := 1)).1 h
  omega
 have h2 : a = 0 ∨ a = 1 := by omega
 rcases h2 with rfl | rfl
 ·exact Nat.zero_pow (by omega)
 ·exact Nat.one_pow _
set_option maxHeartbeats 3200000 in
theorem npow_zero (h : Hv w A c xs a K) (hK : K ≤ 67108864) : Calls Tryz.prog 123 #[.slice A xs.length c, .int .i64 0] w fun e w' => PwE w w' (a ^ 0) (.int .i64 0) e := by
 have hlen := h.len
 have T0 := hi9 (trim_any A c xs w w.heap.size h.rd h.cap (by omega))
 clear h
 go_enter Tryz.func123, Tryz.ntmps123
 go_wp2_with (first
  | (go_at_call 128; (with_reducible refine T0.out.mono ?_); rintro e w' ⟨rfl, rfl⟩)
  | (go_at_call 111; (refine (of_any 1 (by decide) _).mono ?_); rintro e w1 ⟨zs, A1, c1, rfl, hz, hr, hb⟩))
 go_ret2
 exact ⟨zs, A1, c1, rfl, hz, hr, hb⟩
set_option maxHeartbeats 3200000 in
theorem npow_little (h : Hv w A c xs a K) (hK : K ≤ 67108864) (k : Nat) (hk0 : k ≠ 0) (_ : k < 9223372036854775808) (hb : bitsOf a ≤ 1) : Calls Tryz.prog 123 #[.slice A xs.length c, .int .i64 (k : Int)] w fun e w' => PwE w w' (a ^ k) (.int .i64 0) e := by
 rw [small_pow hk0 hb]
 have hlen := h.len
 have hl := trimL_length_le xs
 have T0 := hi9 (trim_any A c xs w w.heap.size h.rd h.cap (by omega))
 have hn : Num 4294967296 (trimL xs) a := by rw [← h.val_]; exact Num.of_trim h.dig
 have hrt : Rd w w.heap.size A (u32s (trimL xs)) := by rw [u32s_trim]; exact h.rd.take _
 have L1 := hi9 (len_any A c (trimL xs) w w.heap.size hrt hn.1 (by have := h.cap; omega) (by omega))
 have N1 := hi9 (norm_any A c (trimL xs) w w.heap.size hrt nl9 (by have := h.cap; omega) (by omega))
 rw [hn.2.2] at L1
 rw [hn.2.1] at N1
 obtain ⟨b, hbe⟩ : ∃ b, b = bitsOf a := ⟨_, rfl⟩
 rw [← hbe] at L1 hb
 obtain ⟨ps, hps⟩ : ∃ ps, ps = trimL xs := ⟨_, rfl⟩
 rw [← hps] at T0 L1 N1 hn
 have t0 : ((k : Int) == 0) = false := beq_eq_false_iff_ne.2 (by omega)
 have t1 : decide ((b : Int) ≤ 1) = true := decide_eq_true (by omega)
 have t1b : decide (b ≤ 1) = true := decide_eq_true (by omega)
 have Hn := hi9 hn
 clear h hn hrt hbe hps hlen hl
 go_enter Tryz.func123, Tryz.ntmps123
 go_wp2_with (first
  | (go_at_call 128; (with_reducible refine T0.out.mono ?_); rintro e w' ⟨rfl, rfl⟩)
  | (go_at_call 97; (with_reducible refine L1.out.mono ?_); rintro e w' ⟨rfl, rfl⟩)
  | (go_at_call 117; (with_reducible refine N1.out.mono ?_); rintro e w1 ⟨A1, c1, rfl, hr1, hb1⟩))
 go_ret2
 exact ⟨ps, A1, c1, rfl, Hn.out, hr1, hb1⟩
set_option maxHeartbeats 6400000 in
theorem npow_ok (h : Hv w A c xs a K) (hK : K ≤ 67108863) (k : Nat) (hk0 : k ≠ 0) (hb : 2 ≤ bitsOf a) (hs : bitsOf a * k ≤ 40000) (hT : Tab32 w) (_ : 0 < w.heap.size) : Calls Tryz.prog 123 #[.slice A xs.length c, .int .i64 (k : Int)] w fun e w' => PwE w w' (a ^ k) (.int .i64 0) e := by
 have hlen := h.len
 have hl := trimL_length_le xs
 have T0 := hi9 (trim_any A c xs w w.heap.size h.rd h.cap (by omega))
 have hn : Num 4294967296 (trimL xs) a := by rw [← h.val_]; exact Num.of_trim h.dig
 have hrt : Rd w w.heap.size A (u32s (trimL xs)) := by rw [u32s_trim]; exact h.rd.take _
 have L1 := hi9 (len_any A c (trimL xs) w w.heap.size hrt hn.1 (by have := h.cap; omega) (by omega))
 obtain ⟨t, ht⟩ := trail_exists (trimL xs)
 have hdv := ht.dvd hn.1
 rw [hn.2.2] at L1 hdv
 have R0 := hi9 (trail_fix A c (trimL xs) t ht w w.heap.size hrt hn.1 (by omega) hT)
 have R1 := hi9 (right_any A c (trimL xs) (t : Int) w w.heap.size hrt nl9 hn.1 (by have := h.cap; omega) (by omega) (by
  rcases ht with ⟨h1, _, _⟩ | ⟨rfl, _⟩
  ·omega
  ·decide))
 rw [hn.2.2] at R1
 have ha : 0 < a := by
  rcases Nat.eq_zero_or_pos a with h0 | h0
  ·subst h0; revert hb; decide
  ·exact h0
 obtain ⟨o, ho⟩ := hdv
 have ho1 : 1 ≤ o := by
  rcases Nat.eq_zero_or_pos o with h0 | h0
  ·subst h0; rw [Nat.mul_zero] at ho; omega
  ·exact h0
 have hdiv : a / 2 ^ t = o := by rw [ho]; exact Nat.mul_div_cancel_left _ (Nat.two_pow_pos t)
 have hoa : o ≤ a := by rw [ho]; exact Nat.le_mul_of_pos_left _ (Nat.two_pow_pos t)
 have htb : t < bitsOf a := by
  rcases Nat.lt_or_ge t (bitsOf a) with g | g
  ·exact g
  ·have h1 : a < 2 ^ t := Nat.lt_of_lt_of_le bits_lt (Nat.pow_le_pow_right (by omega) g)
   have : 2 ^ t ≤ a := by rw [ho]; exact Nat.le_mul_of_pos_right _ (by omega)
   omega
 have hkt : k * t ≤ 40000 := by
  have h1 : k * t ≤ k * bitsOf a := Nat.mul_le_mul_left k (by omega)
  rw [Nat.mul_comm k (bitsOf a)] at h1
  omega
 have hok : o ^ k ≤ a ^ k := Nat.pow_le_pow_left hoa k
 obtain ⟨N, hN1, hN2, hN3⟩ := pow_limbs hs
 have hPow : o ^ k * 2 ^ (k * t) = a ^ k := by
  rw [ho, Nat.mul_pow, ← Nat.pow_mul, Nat.mul_comm t k, Nat.mul_comm]
 have hbo : bitsOf (o ^ k) ≤ 32 * N := by
  have h1 := (bits_le_iff (n := a ^ k)).1 hN3
  rw [bits_le_iff]
  omega
 have hkl : k ≤ 40000 := by
  have : 1 * k ≤ bitsOf a * k := Nat.mul_le_mul_right k (by omega)
  omega
 have hb40 : bitsOf a ≤ 40000 := by
  have : bitsOf a * 1 ≤ bitsOf a * k := Nat.mul_le_mul_left _ (by omega)
  omega
 have hq : ¬ ((67108863 : Int) / ((bitsOf a : Int) - 1) < (k : Int)) := by
  rw [quo_gt hb]
  have h1 : k * (bitsOf a - 1) ≤ k * bitsOf a := Nat.mul_le_mul_left k (by omega)
  rw [Nat.mul_comm k (bitsOf a)] at h1
  omega
 obtain ⟨b, hbe⟩ : ∃ b, b = bitsOf a := ⟨_, rfl⟩
 rw [← hbe] at L1 hb hq hb40
 obtain ⟨ps, hps⟩ : ∃ ps, ps = trimL xs := ⟨_, rfl⟩
 rw [← hps] at T0 L1 R0 R1
 unfold RightOut at R1
 rw [if_neg (by omega), if_neg (by omega), Int.toNat_natCast, hdiv] at R1
 obtain ⟨B, hB⟩ : ∃ B, B = bitsOf (o ^ k) := ⟨_, rfl⟩
 have LT := Nat.lt_of_le_of_lt hok hN2
 obtain ⟨q, hqe⟩ : ∃ q, q = o ^ k := ⟨_, rfl⟩
 rw [← hB] at hbo
 rw [← hqe] at hPow hB LT
 have hkt2 : (k : Int) * (t : Int) = ((k * t : Nat) : Int) := by simp
 obtain ⟨m, hm⟩ : ∃ m, m = k * t := ⟨_, rfl⟩
 rw [← hm] at hkt hPow hkt2
 have POW : Hid (∀ (os : List Nat) (A1 : Option Addr) (c1 : Nat) (W : World), Num 4294967296 os o → Res W w.heap.size 50 A1 c1 (u32s os) → Calls Tryz.prog 152 #[.slice A1 os.length c1, .int .i64 (k : Int)] W fun e w' => PwOut W w' q e) := fun os A1 c1 W hz hr => by
  rw [hqe]
  have hol : o < 4294967296 ^ K := Nat.lt_of_le_of_lt hoa h.lt
  exact power_any (Hv.of hz hr hol) (by omega) ho1 (by omega) (by omega) (by rw [← hqe]; exact LT) (by omega)
 have LEN : Hid (∀ (zs : List Nat) (A2 : Option Addr) (c2 B9 : Nat) (W : World), Num 4294967296 zs q → Res W B9 50 A2 c2 (u32s zs) → Calls Tryz.prog 97 #[.slice A2 zs.length c2] W fun e w' => e = .returned (.int .i64 (B : Nat)) ∧ W = w') := fun zs A2 c2 B9 W hz hr => by
  rw [hB]
  exact (Hv.of (K := N) hz hr LT).nlen (by omega)
 have SHU : Hid (∀ (zs : List Nat) (A2 : Option Addr) (c2 B9 : Nat) (W : World), Num 4294967296 zs q → Res W B9 50 A2 c2 (u32s zs) → Calls Tryz.prog 153 #[.slice A2 zs.length c2, .int .i64 (m : Int)] W fun e w' => PwOut W w' (a ^ k) e) := fun zs A2 c2 B9 W hz hr => by
  have hv := Hv.of (K := N) hz hr LT
  have := shiftUp_any A2 c2 zs m (m / 32) (m % 32) W W.heap.size hv.rd nl9 hz.1 (by omega) (by omega) (by have := hv.len; omega)
  rw [hz.2.2, hPow] at this
  exact this
 have t0 : ((k : Int) == 0) = false := beq_eq_false_iff_ne.2 (by omega)
 have t1 : decide ((b : Int) ≤ 1) = false := decide_eq_false (by omega)
 have t1b : decide (b ≤ 1) = false := decide_eq_false (by omega)
 have t3 : ((b : Int) - 1 == 0) = false := beq_eq_false_iff_ne.2 (by omega)
 have t2 : decide ((67108863 : Int) / ((b : Int) - 1) < (k : Int)) = false := decide_eq_false hq
 have t4 : decide (67108864 < (B : Int) + (m : Int)) = false := decide_eq_false (by omega)
 clear h hn hrt hps hlen hl hT ht ho ho1 hdiv hoa htb hok hPow hN2 hN3 hq hbe LT hqe ha hs hm
 go_enter Tryz.func123, Tryz.ntmps123
 go_wp2_with (first
  | (go_at_call 128; (with_reducible refine T0.out.mono ?_); rintro e w' ⟨rfl, rfl⟩)
  | (go_at_call_of 97 (Value.slice A ps.length c); (with_reducible refine L1.out.mono ?_); rintro e w' ⟨rfl, rfl⟩)
  | (go_at_call 150; (with_reducible refine R0.out.mono ?_); rintro e w' ⟨rfl, rfl⟩)
  | (go_at_call 151; (with_reducible refine R1.out.mono ?_); rintro e w1 ⟨os, A1, c1, rfl, hz1, hr1, hb1⟩)
  | (go_at_call 152; (with_reducible refine (POW.out os A1 c1 _ hz1 hr1).mono ?_); rintro e w2 ⟨zs, A2, c2, rfl, hz2, hr2, hb2⟩)
  | (go_at_call 97; (with_reducible refine (LEN.out zs A2 c2 _ _ hz2 hr2).mono ?_); rintro e w' ⟨rfl, rfl⟩)
  | (go_at_call 153; (with_reducible refine (SHU.out zs A2 c2 _ _ hz2 hr2).mono ?_); rintro e w3 ⟨zt, A3, c3, rfl, hz3, hr3, hb3⟩)
  | simp only [])
 have k2 : Below w.heap.size w w2 := hb1.trans (hb2.mono hb1.size)
 go_ret2
 exact ⟨zt, A3, c3, rfl, hz3, hr3.mono k2.size, k2.trans (hb3.mono k2.size)⟩
end
end
section
open Go.RowKit
section
variable {w : World} {A : Option Addr} {c a K : Nat} {xs : List Nat}
theorem rpow_big1 (h : Hv w A c xs a K) (hK : K ≤ 67108864) (k : Nat) (hk : 67108864 < k) (hk2 : k < 9223372036854775808) (hb : 2 ≤ bitsOf a) : Calls Tryz.prog 124 #[.slice A xs.length c, .int .i64 (k : Int)] w fun e w' => PwF w w' (.bool false) e := by
 have NA := hi9 (h.normP hK)
 have LA : Hid (∀ (zs : List Nat) (A1 : Option Addr) (c1 B9 : Nat) (W : World), Num 4294967296 zs a → Res W B9 50 A1 c1 (u32s zs) → Calls Tryz.prog 41 #[.slice A1 zs.length c1] W fun e w' => e = .returned (.int .i64 (bitsOf a : Nat)) ∧ Below W.heap.size W w') := fun zs A1 c1 B9 W hz hr =>
  (Hv.of (K := K) hz hr h.lt).lenP hK
 have hbl := bits_limbs h.lt
 have hz0 : Hid (∀ zs, Num 4294967296 zs a → zs.length ≠ 0) := fun zs hz e => by
  have h1 : a = 0 := by rw [← hz.2.2, List.eq_nil_of_length_eq_zero e]; rfl
  subst h1
  revert hb
  decide
 obtain ⟨b, hbe⟩ : ∃ b, b = bitsOf a := ⟨_, rfl⟩
 rw [← hbe] at LA hb hbl
 have t1 : ((b : Int) == 1) = false := beq_eq_false_iff_ne.2 (by omega)
 have t2 : decide (67108864 < (k : Int)) = true := decide_eq_true (by omega)
 have t2b : decide (67108864 < k) = true := decide_eq_true (by omega)
 clear h hbe
 go_enter Tryz.func124, Tryz.ntmps124
 go_wp2_with fail
 refine NA.out.mono ?_
 rintro e w1 ⟨zs, A1, c1, rfl, hz, hr, hb1⟩
 have t0 : ((zs.length : Int) == 0) = false := beq_eq_false_iff_ne.2 (by have := hz0.out zs hz; omega)
 go_wp2_with fail
 refine (LA.out zs A1 c1 _ _ hz hr).mono ?_
 rintro e w2 ⟨rfl, hb2⟩
 go_wp2_with fail
 go_ret2
 exact ⟨rfl, hb1.trans (hb2.mono hb1.size)⟩
theorem rpow_big2 (h : Hv w A c xs a K) (hK : K ≤ 67108864) (k : Nat) (hk : k ≤ 67108864) (hb : 2 ≤ bitsOf a) (hbig : 67108864 ≤ k * (bitsOf a - 1)) : Calls Tryz.prog 124 #[.slice A xs.length c, .int .i64 (k : Int)] w fun e w' => PwF w w' (.bool false) e := by
 have NA := hi9 (h.normP hK)
 have LA : Hid (∀ (zs : List Nat) (A1 : Option Addr) (c1 B9 : Nat) (W : World), Num 4294967296 zs a → Res W B9 50 A1 c1 (u32s zs) → Calls Tryz.prog 41 #[.slice A1 zs.length c1] W fun e w' => e = .returned (.int .i64 (bitsOf a : Nat)) ∧ Below W.heap.size W w') := fun zs A1 c1 B9 W hz hr =>
  (Hv.of (K := K) hz hr h.lt).lenP hK
 have LA2 : Hid (∀ (zs : List Nat) (A1 : Option Addr) (c1 : Nat) (wo W : World), Num 4294967296 zs a → Res wo w.heap.size 50 A1 c1 (u32s zs) → Below wo.heap.size wo W → Calls Tryz.prog 41 #[.slice A1 zs.length c1] W fun e w' => e = .returned (.int .i64 (bitsOf a : Nat)) ∧ Below W.heap.size W w') := fun zs A1 c1 wo W hz hr hW =>
  ((Hv.of (K := K) hz hr h.lt).next hW).lenP hK
 have hbl := bits_limbs h.lt
 have hz0 : Hid (∀ zs, Num 4294967296 zs a → zs.length ≠ 0) := fun zs hz e => by
  have h1 : a = 0 := by rw [← hz.2.2, List.eq_nil_of_length_eq_zero e]; rfl
  subst h1
  revert hb
  decide
 obtain ⟨b, hbe⟩ : ∃ b, b = bitsOf a := ⟨_, rfl⟩
 rw [← hbe] at LA LA2 hb hbl hbig
 obtain ⟨d, rfl⟩ : ∃ d, b = d + 1 := ⟨b - 1, by omega⟩
 rw [Nat.add_sub_cancel, Nat.mul_comm] at hbig
 have e1 : ((d + 1 : Nat) : Int) - 1 = (d : Int) := by omega
 have e2 : (d : Int) * (k : Int) = ((d * k : Nat) : Int) := by simp
 have hm2 : d * k ≤ 2147483648 * 67108864 := Nat.mul_le_mul (by omega) hk
 obtain ⟨m, hm⟩ : ∃ m, m = d * k := ⟨_, rfl⟩
 rw [← hm] at hbig e2 hm2
 have t1 : ((((d + 1 : Nat) : Int)) == 1) = false := beq_eq_false_iff_ne.2 (by omega)
 have t2 : decide (67108864 < (k : Int)) = false := decide_eq_false (by omega)
 have t3 : decide (67108864 ≤ (m : Int)) = true := decide_eq_true (by omega)
 clear h hbe hm
 go_enter Tryz.func124, Tryz.ntmps124
 go_wp2_with fail
 refine NA.out.mono ?_
 rintro e w1 ⟨zs, A1, c1, rfl, hz, hr, hb1⟩
 have t0 : ((zs.length : Int) == 0) = false := beq_eq_false_iff_ne.2 (by have := hz0.out zs hz; omega)
 go_wp2_with fail
 refine (LA.out zs A1 c1 _ _ hz hr).mono ?_
 rintro e w2 ⟨rfl, hb2⟩
 go_wp2_with fail
 refine (LA2.out zs A1 c1 w1 w2 hz hr hb2).mono ?_
 rintro e w3 ⟨rfl, hb3⟩
 go_wp2_with (simp only [])
 go_ret2
 exact ⟨rfl, (hb1.trans (hb2.mono hb1.size)).trans (hb3.mono (Nat.le_trans hb1.size hb2.size))⟩
theorem num_one : Num 4294967296 [1] 1 := ⟨fun x hx => by simp at hx; omega, by decide, by simp [val]⟩
theorem res_one (W : World) {B : Nat} (hB : B ≤ W.heap.size) : Res (W.alloc (.cells #[.int .u32 1] 50)) B 50 (some ⟨W.heap.size, 0, none⟩) 1 (u32s [1]) :=
 Res.of_blk0 (vs := [.int .u32 1]) (Blk.new_ rfl) hB (by decide)
theorem rpow_zero (h : Hv w A c xs 0 K) (hK : K ≤ 67108864) (k : Nat) (hk : k < 9223372036854775808) : Calls Tryz.prog 124 #[.slice A xs.length c, .int .i64 (k : Int)] w fun e w' => PwE w w' (0 ^ k) (.bool true) e := by
 have NA := hi9 (h.normP hK)
 clear h
 by_cases hk0 : k = 0
 ·subst hk0
  go_enter Tryz.func124, Tryz.ntmps124
  go_wp2_with fail
  refine NA.out.mono ?_
  rintro e w1 ⟨zs, A1, c1, rfl, hz, hr, hb1⟩
  obtain rfl : zs = [] := Num.unique (by omega) hz (Num.zero_ _)
  go_wp2_with fail
  go_ret2
  exact ⟨[1], _, _, rfl, num_one, res_one w1 hb1.size, hb1.alloc hb1.size _⟩
 ·have t2 : ((k : Int) == 0) = false := beq_eq_false_iff_ne.2 (by omega)
  go_enter Tryz.func124, Tryz.ntmps124
  go_wp2_with fail
  refine NA.out.mono ?_
  rintro e w1 ⟨zs, A1, c1, rfl, hz, hr, hb1⟩
  obtain rfl : zs = [] := Num.unique (by omega) hz (Num.zero_ _)
  go_wp2_with fail
  go_ret2
  exact ⟨[], _, _, rfl, by rw [Nat.zero_pow (by omega)]; exact Num.zero_ _, hr, hb1⟩
theorem rpow_one (h : Hv w A c xs 1 K) (hK : K ≤ 67108864) (k : Nat) (hk : k < 9223372036854775808) : Calls Tryz.prog 124 #[.slice A xs.length c, .int .i64 (k : Int)] w fun e w' => PwE w w' (1 ^ k) (.bool true) e := by
 have NA := hi9 (h.normP hK)
 have LA : Hid (∀ (zs : List Nat) (A1 : Option Addr) (c1 B9 : Nat) (W : World), Num 4294967296 zs 1 → Res W B9 50 A1 c1 (u32s zs) → Calls Tryz.prog 41 #[.slice A1 zs.length c1] W fun e w' => e = .returned (.int .i64 1) ∧ Below W.heap.size W w') := fun zs A1 c1 B9 W hz hr =>
  (Hv.of (K := K) hz hr h.lt).lenP hK
 rw [Nat.one_pow]
 clear h
 by_cases hk0 : k = 0
 ·subst hk0
  go_enter Tryz.func124, Tryz.ntmps124
  go_wp2_with fail
  refine NA.out.mono ?_
  rintro e w1 ⟨zs, A1, c1, rfl, hz, hr, hb1⟩
  obtain rfl : zs = [1] := Num.unique (by omega) hz num_one
  go_wp2_with fail
  refine (LA.out [1] A1 c1 _ _ hz hr).mono ?_
  rintro e w2 ⟨rfl, hb2⟩
  go_wp2_with fail
  go_ret2
  have k2 := hb1.trans (hb2.mono hb1.size)
  exact ⟨[1], _, _, rfl, num_one, res_one w2 k2.size, k2.alloc k2.size _⟩
 ·have t2 : ((k : Int) == 0) = false := beq_eq_false_iff_ne.2 (by omega)
  go_enter Tryz.func124, Tryz.ntmps124
  go_wp2_with fail
  refine NA.out.mono ?_
  rintro e w1 ⟨zs, A1, c1, rfl, hz, hr, hb1⟩
  obtain rfl : zs = [1] := Num.unique (by omega) hz num_one
  go_wp2_with fail
  refine (LA.out [1] A1 c1 _ _ hz hr).mono ?_
  rintro e w2 ⟨rfl, hb2⟩
  go_wp2_with fail
  go_ret2
  have k2 := hb1.trans (hb2.mono hb1.size)
  exact ⟨[1], A1, c1, rfl, num_one, hr.below hb2 nl9, k2⟩
set_option maxHeartbeats 6400000 in
theorem rpow_ok (h : Hv w A c xs a K) (hK : K ≤ 67108864) (k : Nat) (hb : 2 ≤ bitsOf a) (hs : bitsOf a * k ≤ 40000) : Calls Tryz.prog 124 #[.slice A xs.length c, .int .i64 (k : Int)] w fun e w' => PwE w w' (a ^ k) (.bool true) e := by
 have NA := hi9 (h.normP hK)
 have LA : Hid (∀ (zs : List Nat) (A1 : Option Addr) (c1 B9 : Nat) (W : World), Num 4294967296 zs a → Res W B9 50 A1 c1 (u32s zs) → Calls Tryz.prog 41 #[.slice A1 zs.length c1] W fun e w' => e = .returned (.int .i64 (bitsOf a : Nat)) ∧ Below W.heap.size W w') := fun zs A1 c1 B9 W hz hr =>
  (Hv.of (K := K) hz hr h.lt).lenP hK
 have LA2 : Hid (∀ (zs : List Nat) (A1 : Option Addr) (c1 : Nat) (wo W : World), Num 4294967296 zs a → Res wo w.heap.size 50 A1 c1 (u32s zs) → Below wo.heap.size wo W → Calls Tryz.prog 41 #[.slice A1 zs.length c1] W fun e w' => e = .returned (.int .i64 (bitsOf a : Nat)) ∧ Below W.heap.size W w') := fun zs A1 c1 wo W hz hr hW =>
  ((Hv.of (K := K) hz hr h.lt).next hW).lenP hK
 have hbl := bits_limbs h.lt
 have HAL := hi9 h.lt
 obtain ⟨N, hN1, hN2, hN3⟩ := pow_limbs hs
 have ha : 0 < a := by
  rcases Nat.eq_zero_or_pos a with h0 | h0
  ·subst h0; revert hb; decide
  ·exact h0
 have hkl : k ≤ 40000 := by
  have : 1 * k ≤ bitsOf a * k := Nat.mul_le_mul_right k (by omega)
  omega
 have hz0 : Hid (∀ zs, Num 4294967296 zs a → zs.length ≠ 0) := fun zs hz e => by
  have h1 : a = 0 := by rw [← hz.2.2, List.eq_nil_of_length_eq_zero e]; rfl
  omega
 have HPL : Hid (∀ i, i ≤ k → a ^ i < 4294967296 ^ N ∧ bitsOf (a ^ i) ≤ 64000) := fun i hi => by
  have h1 : a ^ i ≤ a ^ k := Nat.pow_le_pow_right ha hi
  refine ⟨by omega, ?_⟩
  have h2 := (bits_le_iff (n := a ^ k)).1 hN3
  have h3 : bitsOf (a ^ i) ≤ 32 * N := by rw [bits_le_iff]; omega
  omega
 obtain ⟨b, hbe⟩ : ∃ b, b = bitsOf a := ⟨_, rfl⟩
 rw [← hbe] at LA LA2 hb hbl hs
 obtain ⟨d, hd⟩ : ∃ d, b = d + 1 := ⟨b - 1, by omega⟩
 have e1 : (b : Int) - 1 = (d : Int) := by omega
 have e2 : (d : Int) * (k : Int) = ((d * k : Nat) : Int) := by simp
 have hm2 : d * k ≤ 40000 := Nat.le_trans (Nat.mul_le_mul_right k (by omega)) hs
 obtain ⟨m, hm⟩ : ∃ m, m = d * k := ⟨_, rfl⟩
 rw [← hm] at e2 hm2
 have t1 : ((b : Int) == 1) = false := beq_eq_false_iff_ne.2 (by omega)
 have t2 : decide (67108864 < (k : Int)) = false := decide_eq_false (by omega)
 have t3 : decide (67108864 ≤ (m : Int)) = false := decide_eq_false (by omega)
 clear h hbe hm hs hN2 hN3 hd
 go_enter Tryz.func124, Tryz.ntmps124
 go_wp2_with fail
 refine NA.out.mono ?_
 rintro e w1 ⟨zs, A1, c1, rfl, hz, hr, hb1⟩
 have t0 : ((zs.length : Int) == 0) = false := beq_eq_false_iff_ne.2 (by have := hz0.out zs hz; omega)
 go_wp2_with fail
 refine (LA.out zs A1 c1 _ _ hz hr).mono ?_
 rintro e w2 ⟨rfl, hb2⟩
 go_wp2_with fail
 refine (LA2.out zs A1 c1 w1 w2 hz hr hb2).mono ?_
 rintro e w3 ⟨rfl, hb3⟩
 have k2 := hb1.trans (hb2.mono hb1.size)
 have k3 := k2.trans (hb3.mono k2.size)
 have hr3 : Res w3 w.heap.size 50 A1 c1 (u32s zs) := (hr.below hb2 nl9).below hb3 nl9
 have HA : Hid (∀ W, Below w3.heap.size w3 W → Hv W A1 c1 zs a K) := fun W hW => (Hv.of (K := K) hz hr3 HAL.out).next hW
 clear hz hr hb1 hb2 hb3 k2 hr3 NA LA LA2
 go_wp2_with (simp only [])
 go_loopw [4, 5, 6, 7] (fun _ _ ov iv wr => ∃ (i : Nat) (zn : List Nat) (An : Option Addr) (cn : Nat), i ≤ k ∧ iv = .int .i64 (i : Int) ∧ ov = .slice An zn.length cn ∧ Num 4294967296 zn (a ^ i) ∧ Res wr w.heap.size 50 An cn (u32s zn) ∧ Below w.heap.size w wr ∧ Below w3.heap.size w3 wr) (fun _ _ _ iv _ => k - (intOf iv).toNat)
 case atStart => exact ⟨0, [1], _, _, Nat.zero_le _, rfl, rfl, num_one, res_one w3 k3.size, k3.alloc k3.size _, br9.alloc nl9 _⟩
 case round =>
  obtain ⟨i, zn, An, cn, hi, rfl, rfl, hz, hr, hbel, hbe3⟩ := hrel
  have KB := hi9 hbel
  have K3 := hi9 hbe3
  by_cases hlt : i < k
  ·obtain ⟨hl1, hl2⟩ := HPL.out (i + 1) (by omega)
   rw [Nat.pow_succ] at hl1 hl2
   have M1 := hi9 ((Hv.of (K := N) hz hr (HPL.out i hi).1).rmulP (HA.out _ hbe3) (by omega) hK)
   obtain ⟨q, hq⟩ : ∃ q, q = a ^ i * a := ⟨_, rfl⟩
   rw [← hq] at M1 hl1 hl2
   obtain ⟨bq, hbq⟩ : ∃ bq, bq = bitsOf q := ⟨_, rfl⟩
   rw [← hbq] at hl2
   have LQ : Hid (∀ (zs : List Nat) (A1 : Option Addr) (c1 B9 : Nat) (W : World), Num 4294967296 zs q → Res W B9 50 A1 c1 (u32s zs) → Calls Tryz.prog 41 #[.slice A1 zs.length c1] W fun e w' => e = .returned (.int .i64 (bq : Nat)) ∧ Below W.heap.size W w') := fun zs A1 c1 B9 W hz hr => by
    rw [hbq]
    exact (Hv.of (K := N) hz hr hl1).lenP (by omega)
   have t5 : decide (67108864 < (bq : Int)) = false := decide_eq_false (by omega)
   have Hq := hi9 hq
   clear hz hr hbel hbe3 hl1 hq hbq
   go_wp2_with (first
    | (go_at_call 122; (with_reducible refine M1.out.mono ?_); rintro e w4 ⟨zq, A4, c4, rfl, hz4, hr4, hb4⟩)
    | (go_at_call 41; (with_reducible refine (LQ.out zq A4 c4 _ _ hz4 hr4).mono ?_); rintro e w5 ⟨rfl, hb5⟩))
   have k4 := KB.out.trans (hb4.mono KB.out.size)
   have k5 := k4.trans (hb5.mono k4.size)
   have s3 := K3.out.size
   have j4 := K3.out.trans (hb4.mono s3)
   have j5 := j4.trans (hb5.mono j4.size)
   go_roundw
   case rel => exact ⟨i + 1, zq, A4, c4, by omega, by go_num, rfl, by rw [Nat.pow_succ, ← Hq.out]; exact hz4, (hr4.below hb5 nl9).mono KB.out.size, k5, j5⟩
   case measure => simp [intOf]; omega
  ·obtain rfl : i = k := by omega
   have Hz := hi9 hz
   clear hz hbel hbe3
   go_wp2_with fail
   go_ret2
   exact ⟨zn, An, cn, rfl, Hz.out, hr, KB.out⟩
def PwS (a k : Nat) : Prop := k = 0 ∨ bitsOf a ≤ 1 ∨ bitsOf a * k ≤ 40000
theorem PwS.limbs {a k : Nat} (h : PwS a k) : ∃ J, J ≤ 2000 ∧ a ^ k < 4294967296 ^ J := by
 by_cases hk : k = 0
 ·subst hk; exact ⟨1, by omega, by simp⟩
 ·by_cases hb : bitsOf a ≤ 1
  ·refine ⟨1, by omega, ?_⟩
   rw [small_pow hk hb]
   have := (bits_le_iff (n := a) (b := 1)).1 hb
   omega
  ·obtain ⟨J, h1, h2, _⟩ := pow_limbs ((h.resolve_left hk).resolve_left hb)
   exact ⟨J, h1, h2⟩
theorem npow_all (h : Hv w A c xs a K) (hK : K ≤ 67108863) (k : Nat) (hk : k < 9223372036854775808) (hs : PwS a k) (hT : Tab32 w) (hTB : 0 < w.heap.size) : Calls Tryz.prog 123 #[.slice A xs.length c, .int .i64 (k : Int)] w fun e w' => PwE w w' (a ^ k) (.int .i64 0) e := by
 by_cases hk0 : k = 0
 ·subst hk0; exact npow_zero h (by omega)
 ·by_cases hb : bitsOf a ≤ 1
  ·exact npow_little h (by omega) k hk0 hk hb
  ·exact npow_ok h hK k hk0 (by omega) ((hs.resolve_left hk0).resolve_left hb) hT hTB
theorem rpow_all (h : Hv w A c xs a K) (hK : K ≤ 67108863) (k : Nat) (hk : k < 9223372036854775808) (hs : PwS a k) : Calls Tryz.prog 124 #[.slice A xs.length c, .int .i64 (k : Int)] w fun e w' => PwE w w' (a ^ k) (.bool true) e := by
 by_cases hb : bitsOf a ≤ 1
 ·have h1 := (bits_le_iff (n := a) (b := 1)).1 hb
  have h2 : a = 0 ∨ a = 1 := by omega
  rcases h2 with rfl | rfl
  ·exact rpow_zero h (by omega) k hk
  ·exact rpow_one h (by omega) k hk
 ·rcases hs with rfl | h1 | h1
  ·exact rpow_ok h (by omega) 0 (by omega) (by omega)
  ·exact absurd h1 hb
  ·exact rpow_ok h (by omega) k (by omega) h1
theorem rpow_much (h : Hv w A c xs a K) (hK : K ≤ 67108864) (k : Nat) (hk : k < 9223372036854775808) (hb : 2 ≤ bitsOf a) (hbig : 67108864 ≤ k * (bitsOf a - 1)) : Calls Tryz.prog 124 #[.slice A xs.length c, .int .i64 (k : Int)] w fun e w' => PwF w w' (.bool false) e := by
 by_cases h1 : k ≤ 67108864
 ·exact rpow_big2 h hK k h1 hb hbig
 ·exact rpow_big1 h hK k (by omega) hk hb
end
end
section
open Go.RowKit
theorem neg_pow9 (n k : Nat) : (-(n : Int)) ^ k = if k % 2 = 1 then -((n ^ k : Nat) : Int) else ((n ^ k : Nat) : Int) := by
 induction k with
 | zero => simp
 | succ k ih =>
  rw [Int.pow_succ, ih, Nat.pow_succ]
  rcases Nat.mod_two_eq_zero_or_one k with e | e
  ·rw [if_neg (by omega), if_pos (by omega)]
   simp [Int.mul_neg]
  ·rw [if_pos e, if_neg (by omega)]
   simp [Int.neg_mul, Int.mul_neg]
theorem pow_ival (g : Bool) (n k : Nat) : ivalN g n ^ k = ivalN (g && decide (k % 2 = 1)) (n ^ k) := by
 cases g with
 | false => simp [ivalN]
 | true =>
  simp only [ivalN, if_true, Bool.true_and, neg_pow9, decide_eq_true_eq]
section
variable {w : World} {g : Bool} {A : Option Addr} {c K : Nat} {xs : List Nat} {z : Int}
set_option maxHeartbeats 1600000 in
theorem zpow_out (k n : Nat) (q : Int) (NP : Hid (∀ W (_ : Below w.heap.size w W), Calls Tryz.prog 123 #[.slice A xs.length c, .int .i64 (k : Int)] W fun e w' => PwE W w' n (.int .i64 0) e)) (hq : q = ivalN (g && decide (k % 2 = 1)) n) (hk : k < 9223372036854775808) :
  Calls Tryz.prog 91 #[.agg #[.bool g, .slice A xs.length c], .int .i64 (k : Int)] w fun e w' => ZE w w' q 0 e := by
 obtain ⟨b0, b1⟩ := blk_pair2 w (.bool g) (.slice A xs.length c) (.bool false) (.slice none 0 0)
 have k0 := bel_two w (.cells #[.bool g, .slice A xs.length c] 25) (.cells #[.bool false, .slice none 0 0] 25)
 have e2 : ((k : Int) % 2) = ((k % 2 : Nat) : Int) := by omega
 go_enter Tryz.func91, Tryz.ntmps91
 go_wp2_with fail
 refine (NP.out _ k0).mono ?_
 rintro e w1 ⟨zs, A1, c1, rfl, hz, hr, hb1⟩
 have k1 := bst k0 hb1 nl9
 replace b0 := b0.below hb1 b0.lt
 replace b1 := b1.below hb1 b1.lt
 have r1 : Res w1 w.heap.size 50 A1 c1 (u32s zs) := hr.mono k0.size
 obtain ⟨p0, p1, _, _⟩ := b0.two
 have MD : Hid (∀ gg W, (g && decide (k % 2 = 1)) = gg → Calls Tryz.prog 105 #[.bool gg, .slice A1 zs.length c1] W fun e w' => e = .returned (.agg #[.bool (isNeg q), .slice A1 zs.length c1]) ∧ Below W.heap.size W w') := fun gg W hg => by
  subst hg
  exact made_num _ q hz hq W (res_len r1)
 have HQ := hi9 hq
 have B1 := hi9 b1
 have Hz := hi9 hz
 obtain ⟨kb, hkb⟩ : ∃ kb, kb = decide (k % 2 = 1) := ⟨_, rfl⟩
 rw [← hkb] at MD HQ
 have t1 : (((k : Int) % 2) == 1) = kb := by
  rw [hkb, e2]
  by_cases h : k % 2 = 1
  ·rw [h]; rfl
  ·rw [decide_eq_false h]; exact beq_eq_false_iff_ne.2 (by omega)
 have t2 : (Int.tmod (k : Int) 2 == 1) = kb := by rw [Int.tmod_eq_emod_of_nonneg (by omega)]; exact t1
 clear hkb e2 hq b0 b1 hz hr hb1 NP
 cases g with
 | false =>
  simp only [Bool.false_and] at MD HQ
  go_wp2_with fail
  refine (MD.out _ _ rfl).mono ?_
  rintro e w2 ⟨rfl, hb2⟩
  have B2 := B1.out.below hb2 B1.out.lt
  obtain ⟨q0, q1, q2, q3⟩ := B2.two
  go_wp2_with fail
  exact ze_ret (bst k1 hb2 nl9) B2 (by omega) (num_eq Hz.out (by rw [HQ.out, abs_ival])) (r1.below hb2 nl9) rfl rfl rfl rfl rfl
 | true =>
  simp only [Bool.true_and] at MD HQ
  go_wp2_with fail
  refine (MD.out _ _ rfl).mono ?_
  rintro e w2 ⟨rfl, hb2⟩
  have B2 := B1.out.below hb2 B1.out.lt
  obtain ⟨q0, q1, q2, q3⟩ := B2.two
  go_wp2_with fail
  exact ze_ret (bst k1 hb2 nl9) B2 (by omega) (num_eq Hz.out (by rw [HQ.out, abs_ival])) (r1.below hb2 nl9) rfl rfl rfl rfl rfl
set_option maxHeartbeats 1600000 in
theorem zpow_no (k er : Int) (NP : Hid (∀ W (_ : Below w.heap.size w W), Calls Tryz.prog 123 #[.slice A xs.length c, .int .i64 k] W fun e w' => PwF W w' (.int .i64 er) e)) (he : er ≠ 0) :
  Calls Tryz.prog 91 #[.agg #[.bool g, .slice A xs.length c], .int .i64 k] w fun e w' => ZE w w' 0 er e := by
 obtain ⟨b0, b1⟩ := blk_pair2 w (.bool g) (.slice A xs.length c) (.bool false) (.slice none 0 0)
 have k0 := bel_two w (.cells #[.bool g, .slice A xs.length c] 25) (.cells #[.bool false, .slice none 0 0] 25)
 have t0 : (er != 0) = true := by simpa using he
 have t0b : (er == 0) = false := by simpa using he
 go_enter Tryz.func91, Tryz.ntmps91
 go_wp2_with fail
 refine (NP.out _ k0).mono ?_
 rintro e w1 ⟨rfl, hb1⟩
 have k1 := bst k0 hb1 nl9
 replace b1 := b1.below hb1 b1.lt
 obtain ⟨q0, q1, q2, q3⟩ := b1.two
 have B1 := hi9 b1
 clear b0 b1 NP hb1
 go_wp2_with fail
 exact ze_ret (qs := []) k1 B1.out (by omega) (Num.zero_ _) Res.none_ rfl rfl rfl rfl rfl
set_option maxHeartbeats 1600000 in
theorem rzpow_no (k : Int) (NP : Hid (∀ W (_ : Below w.heap.size w W), Calls Tryz.prog 124 #[.slice A xs.length c, .int .i64 k] W fun e w' => PwF W w' (.bool false) e)) :
  Calls Tryz.prog 93 #[.agg #[.bool g, .slice A xs.length c], .int .i64 k] w fun e w' => ZB w w' 0 false e := by
 obtain ⟨b0, b1⟩ := blk_pair2 w (.bool g) (.slice A xs.length c) (.bool false) (.slice none 0 0)
 have k0 := bel_two w (.cells #[.bool g, .slice A xs.length c] 25) (.cells #[.bool false, .slice none 0 0] 25)
 go_enter Tryz.func93, Tryz.ntmps93
 go_wp2_with fail
 refine (NP.out _ k0).mono ?_
 rintro e w1 ⟨rfl, hb1⟩
 have k1 := bst k0 hb1 nl9
 replace b1 := b1.below hb1 b1.lt
 obtain ⟨q0, q1, q2, q3⟩ := b1.two
 have B1 := hi9 b1
 clear b0 b1 NP hb1
 go_wp2_with fail
 exact zb_ret (qs := []) k1 B1.out (by omega) (Num.zero_ _) Res.none_ rfl rfl rfl rfl rfl
set_option maxHeartbeats 1600000 in
theorem rzpow_out (k n J : Nat) (q : Int) (NP : Hid (∀ W (_ : Below w.heap.size w W), Calls Tryz.prog 124 #[.slice A xs.length c, .int .i64 (k : Int)] W fun e w' => PwE W w' n (.bool true) e)) (hq : q = ivalN (g && decide (k % 2 = 1)) n) (hk : k < 9223372036854775808) (hJ : J ≤ 67108864) (hn : n < 4294967296 ^ J) :
  Calls Tryz.prog 93 #[.agg #[.bool g, .slice A xs.length c], .int .i64 (k : Int)] w fun e w' => ZB w w' q true e := by
 obtain ⟨b0, b1⟩ := blk_pair2 w (.bool g) (.slice A xs.length c) (.bool false) (.slice none 0 0)
 have k0 := bel_two w (.cells #[.bool g, .slice A xs.length c] 25) (.cells #[.bool false, .slice none 0 0] 25)
 have e2 : ((k : Int) % 2) = ((k % 2 : Nat) : Int) := by omega
 go_enter Tryz.func93, Tryz.ntmps93
 go_wp2_with fail
 refine (NP.out _ k0).mono ?_
 rintro e w1 ⟨zs, A1, c1, rfl, hz, hr, hb1⟩
 have k1 := bst k0 hb1 nl9
 replace b0 := b0.below hb1 b0.lt
 replace b1 := b1.below hb1 b1.lt
 have r1 : Res w1 w.heap.size 50 A1 c1 (u32s zs) := hr.mono k0.size
 obtain ⟨p0, p1, _, _⟩ := b0.two
 have MD : Hid (∀ gg W, (g && decide (k % 2 = 1)) = gg → Below w1.heap.size w1 W → Calls Tryz.prog 113 #[.agg #[.bool gg, .slice A1 zs.length c1]] W fun e w' => ZOut W w' q e) := fun gg W hg hW => by
  subst hg
  have hv : Hv w1 A1 c1 zs q.natAbs J := Hv.of (num_eq hz (by rw [hq, abs_ival])) hr (by rw [hq, abs_ival]; exact hn)
  exact Zh.rnorm ⟨hv.next hW, by rw [hq, abs_ival]⟩ hJ
 have B1 := hi9 b1
 obtain ⟨kb, hkb⟩ : ∃ kb, kb = decide (k % 2 = 1) := ⟨_, rfl⟩
 rw [← hkb] at MD
 have t1 : (((k : Int) % 2) == 1) = kb := by
  rw [hkb, e2]
  by_cases h : k % 2 = 1
  ·rw [h]; rfl
  ·rw [decide_eq_false h]; exact beq_eq_false_iff_ne.2 (by omega)
 have t2 : (Int.tmod (k : Int) 2 == 1) = kb := by rw [Int.tmod_eq_emod_of_nonneg (by omega)]; exact t1
 clear hkb e2 hq b0 b1 hz hr hb1 NP hn
 cases g with
 | false =>
  simp only [Bool.false_and] at MD
  go_wp2_with fail
  refine (MD.out _ _ rfl br9).mono ?_
  rintro e w2 ⟨z2, A2, c2, rfl, hz2, hr2, hb2⟩
  have B2 := B1.out.below hb2 B1.out.lt
  obtain ⟨q0, q1, q2, q3⟩ := B2.two
  go_wp2_with fail
  exact zb_ret (bst k1 hb2 nl9) B2 (by omega) hz2 (hr2.mono k1.size) rfl rfl rfl rfl rfl
 | true =>
  simp only [Bool.true_and] at MD
  go_wp2_with fail
  refine (MD.out _ _ rfl br9).mono ?_
  rintro e w2 ⟨z2, A2, c2, rfl, hz2, hr2, hb2⟩
  have B2 := B1.out.below hb2 B1.out.lt
  obtain ⟨q0, q1, q2, q3⟩ := B2.two
  go_wp2_with fail
  exact zb_ret (bst k1 hb2 nl9) B2 (by omega) hz2 (hr2.mono k1.size) rfl rfl rfl rfl rfl
end
end
end Go.Proofs.YtbcphifjcaobfaaGreatDoor
