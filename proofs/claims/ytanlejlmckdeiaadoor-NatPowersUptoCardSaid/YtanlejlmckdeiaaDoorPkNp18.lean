/- The contract of the reference's Pow. Conditions: at most 2^26 limbs; the power has few bits where it is told. -/
import Derived.Test.YtanlejlmckdeiaaDoorPkNp17
namespace Go.Proofs.YtanlejlmckdeiaaDoor
open Go.RowKit

section
variable {w : World} {A : Option Addr} {c a K : Nat} {xs : List Nat}
theorem rpow_big1 (h : Hv w A c xs a K) (hK : K ≤ 67108864) (k : Nat) (hk : 67108864 < k) (hk2 : k < 9223372036854775808) (hb : 2 ≤ bitsOf a) : Calls Tryd.prog 12 #[.slice A xs.length c, .int .i64 (k : Int)] w fun e w' => PwF w w' (.bool false) e := by
  have NA := Lib.hid (h.normP hK)
  have LA : Hid (∀ (zs : List Nat) (A1 : Option Addr) (c1 B9 : Nat) (W : World), Num 4294967296 zs a → Res W B9 36 A1 c1 (u32s zs) → Calls Tryd.prog 8 #[.slice A1 zs.length c1] W fun e w' => e = .returned (.int .i64 (bitsOf a : Nat)) ∧ Below W.heap.size W w') := fun zs A1 c1 B9 W hz hr =>
    (Hv.of (K := K) hz hr h.lt).lenP hK
  have hbl := bits_limbs h.lt
  have hz0 : Hid (∀ zs, Num 4294967296 zs a → zs.length ≠ 0) := fun zs hz e => by
    have h1 : a = 0 := by rw [← hz.2.2, List.eq_nil_of_length_eq_zero e]; rfl
    subst h1
    revert hb
    decide
  obtain ⟨b, hbe⟩ : ∃ b, b = bitsOf a := ⟨_, rfl⟩
  rw [← hbe] at LA hb hbl
  have t1 : ((b : Int) == 1) = false := beq_eq_false_iff_ne.2 (by omega)
  have t2 : decide (67108864 < (k : Int)) = true := decide_eq_true (by omega)
  have t2b : decide (67108864 < k) = true := decide_eq_true (by omega)
  clear h hbe
  go_enter Tryd.func12, Tryd.ntmps12
  go_wp2_with fail
  refine NA.out.mono ?_
  rintro e w1 ⟨zs, A1, c1, rfl, hz, hr, hb1⟩
  have t0 : ((zs.length : Int) == 0) = false := beq_eq_false_iff_ne.2 (by have := hz0.out zs hz; omega)
  go_wp2_with fail
  refine (LA.out zs A1 c1 _ _ hz hr).mono ?_
  rintro e w2 ⟨rfl, hb2⟩
  go_wp2_with fail
  go_ret2
  exact ⟨rfl, hb1.trans (hb2.mono hb1.size)⟩
theorem rpow_big2 (h : Hv w A c xs a K) (hK : K ≤ 67108864) (k : Nat) (hk : k ≤ 67108864) (hb : 2 ≤ bitsOf a) (hbig : 67108864 ≤ k * (bitsOf a - 1)) : Calls Tryd.prog 12 #[.slice A xs.length c, .int .i64 (k : Int)] w fun e w' => PwF w w' (.bool false) e := by
  have NA := Lib.hid (h.normP hK)
  have LA : Hid (∀ (zs : List Nat) (A1 : Option Addr) (c1 B9 : Nat) (W : World), Num 4294967296 zs a → Res W B9 36 A1 c1 (u32s zs) → Calls Tryd.prog 8 #[.slice A1 zs.length c1] W fun e w' => e = .returned (.int .i64 (bitsOf a : Nat)) ∧ Below W.heap.size W w') := fun zs A1 c1 B9 W hz hr =>
    (Hv.of (K := K) hz hr h.lt).lenP hK
  have LA2 : Hid (∀ (zs : List Nat) (A1 : Option Addr) (c1 : Nat) (wo W : World), Num 4294967296 zs a → Res wo w.heap.size 36 A1 c1 (u32s zs) → Below wo.heap.size wo W → Calls Tryd.prog 8 #[.slice A1 zs.length c1] W fun e w' => e = .returned (.int .i64 (bitsOf a : Nat)) ∧ Below W.heap.size W w') := fun zs A1 c1 wo W hz hr hW =>
    ((Hv.of (K := K) hz hr h.lt).next hW).lenP hK
  have hbl := bits_limbs h.lt
  have hz0 : Hid (∀ zs, Num 4294967296 zs a → zs.length ≠ 0) := fun zs hz e => by
    have h1 : a = 0 := by rw [← hz.2.2, List.eq_nil_of_length_eq_zero e]; rfl
    subst h1
    revert hb
    decide
  obtain ⟨b, hbe⟩ : ∃ b, b = bitsOf a := ⟨_, rfl⟩
  rw [← hbe] at LA LA2 hb hbl hbig
  obtain ⟨d, rfl⟩ : ∃ d, b = d + 1 := ⟨b - 1, by omega⟩
  rw [Nat.add_sub_cancel, Nat.mul_comm] at hbig
  have e1 : ((d + 1 : Nat) : Int) - 1 = (d : Int) := by omega
  have e2 : (d : Int) * (k : Int) = ((d * k : Nat) : Int) := by simp
  have hm2 : d * k ≤ 2147483648 * 67108864 := Nat.mul_le_mul (by omega) hk
  obtain ⟨m, hm⟩ : ∃ m, m = d * k := ⟨_, rfl⟩
  rw [← hm] at hbig e2 hm2
  have t1 : ((((d + 1 : Nat) : Int)) == 1) = false := beq_eq_false_iff_ne.2 (by omega)
  have t2 : decide (67108864 < (k : Int)) = false := decide_eq_false (by omega)
  have t3 : decide (67108864 ≤ (m : Int)) = true := decide_eq_true (by omega)
  clear h hbe hm
  go_enter Tryd.func12, Tryd.ntmps12
  go_wp2_with fail
  refine NA.out.mono ?_
  rintro e w1 ⟨zs, A1, c1, rfl, hz, hr, hb1⟩
  have t0 : ((zs.length : Int) == 0) = false := beq_eq_false_iff_ne.2 (by have := hz0.out zs hz; omega)
  go_wp2_with fail
  refine (LA.out zs A1 c1 _ _ hz hr).mono ?_
  rintro e w2 ⟨rfl, hb2⟩
  go_wp2_with fail
  refine (LA2.out zs A1 c1 w1 w2 hz hr hb2).mono ?_
  rintro e w3 ⟨rfl, hb3⟩
  go_wp2_with (simp only [])
  go_ret2
  exact ⟨rfl, (hb1.trans (hb2.mono hb1.size)).trans (hb3.mono (Nat.le_trans hb1.size hb2.size))⟩
theorem num_one : Num 4294967296 [1] 1 := ⟨fun x hx => by simp at hx; omega, by decide, by simp [val]⟩
theorem res_one (W : World) {B : Nat} (hB : B ≤ W.heap.size) : Res (W.alloc (.cells #[.int .u32 1] 36)) B 36 (some ⟨W.heap.size, 0, none⟩) 1 (u32s [1]) :=
  Res.of_blk0 (vs := [.int .u32 1]) (Blk.new_ rfl) hB (by decide)
theorem rpow_zero (h : Hv w A c xs 0 K) (hK : K ≤ 67108864) (k : Nat) (hk : k < 9223372036854775808) : Calls Tryd.prog 12 #[.slice A xs.length c, .int .i64 (k : Int)] w fun e w' => PwE w w' (0 ^ k) (.bool true) e := by
  have NA := Lib.hid (h.normP hK)
  clear h
  by_cases hk0 : k = 0
  · subst hk0
    go_enter Tryd.func12, Tryd.ntmps12
    go_wp2_with fail
    refine NA.out.mono ?_
    rintro e w1 ⟨zs, A1, c1, rfl, hz, hr, hb1⟩
    obtain rfl : zs = [] := Num.unique (by omega) hz (Num.zero_ _)
    go_wp2_with fail
    go_ret2
    exact ⟨[1], _, _, rfl, num_one, res_one w1 hb1.size, hb1.alloc hb1.size _⟩
  · have t2 : ((k : Int) == 0) = false := beq_eq_false_iff_ne.2 (by omega)
    go_enter Tryd.func12, Tryd.ntmps12
    go_wp2_with fail
    refine NA.out.mono ?_
    rintro e w1 ⟨zs, A1, c1, rfl, hz, hr, hb1⟩
    obtain rfl : zs = [] := Num.unique (by omega) hz (Num.zero_ _)
    go_wp2_with fail
    go_ret2
    exact ⟨[], _, _, rfl, by rw [Nat.zero_pow (by omega)]; exact Num.zero_ _, hr, hb1⟩
theorem rpow_one (h : Hv w A c xs 1 K) (hK : K ≤ 67108864) (k : Nat) (hk : k < 9223372036854775808) : Calls Tryd.prog 12 #[.slice A xs.length c, .int .i64 (k : Int)] w fun e w' => PwE w w' (1 ^ k) (.bool true) e := by
  have NA := Lib.hid (h.normP hK)
  have LA : Hid (∀ (zs : List Nat) (A1 : Option Addr) (c1 B9 : Nat) (W : World), Num 4294967296 zs 1 → Res W B9 36 A1 c1 (u32s zs) → Calls Tryd.prog 8 #[.slice A1 zs.length c1] W fun e w' => e = .returned (.int .i64 1) ∧ Below W.heap.size W w') := fun zs A1 c1 B9 W hz hr =>
    (Hv.of (K := K) hz hr h.lt).lenP hK
  rw [Nat.one_pow]
  clear h
  by_cases hk0 : k = 0
  · subst hk0
    go_enter Tryd.func12, Tryd.ntmps12
    go_wp2_with fail
    refine NA.out.mono ?_
    rintro e w1 ⟨zs, A1, c1, rfl, hz, hr, hb1⟩
    obtain rfl : zs = [1] := Num.unique (by omega) hz num_one
    go_wp2_with fail
    refine (LA.out [1] A1 c1 _ _ hz hr).mono ?_
    rintro e w2 ⟨rfl, hb2⟩
    go_wp2_with fail
    go_ret2
    have k2 := hb1.trans (hb2.mono hb1.size)
    exact ⟨[1], _, _, rfl, num_one, res_one w2 k2.size, k2.alloc k2.size _⟩
  · have t2 : ((k : Int) == 0) = false := beq_eq_false_iff_ne.2 (by omega)
    go_enter Tryd.func12, Tryd.ntmps12
    go_wp2_with fail
    refine NA.out.mono ?_
    rintro e w1 ⟨zs, A1, c1, rfl, hz, hr, hb1⟩
    obtain rfl : zs = [1] := Num.unique (by omega) hz num_one
    go_wp2_with fail
    refine (LA.out [1] A1 c1 _ _ hz hr).mono ?_
    rintro e w2 ⟨rfl, hb2⟩
    go_wp2_with fail
    go_ret2
    have k2 := hb1.trans (hb2.mono hb1.size)
    exact ⟨[1], A1, c1, rfl, num_one, hr.below hb2 (Nat.le_refl _), k2⟩
set_option maxHeartbeats 6400000 in
theorem rpow_ok (h : Hv w A c xs a K) (hK : K ≤ 67108864) (k : Nat) (hb : 2 ≤ bitsOf a) (hs : bitsOf a * k ≤ 40000) : Calls Tryd.prog 12 #[.slice A xs.length c, .int .i64 (k : Int)] w fun e w' => PwE w w' (a ^ k) (.bool true) e := by
  have NA := Lib.hid (h.normP hK)
  have LA : Hid (∀ (zs : List Nat) (A1 : Option Addr) (c1 B9 : Nat) (W : World), Num 4294967296 zs a → Res W B9 36 A1 c1 (u32s zs) → Calls Tryd.prog 8 #[.slice A1 zs.length c1] W fun e w' => e = .returned (.int .i64 (bitsOf a : Nat)) ∧ Below W.heap.size W w') := fun zs A1 c1 B9 W hz hr =>
    (Hv.of (K := K) hz hr h.lt).lenP hK
  have LA2 : Hid (∀ (zs : List Nat) (A1 : Option Addr) (c1 : Nat) (wo W : World), Num 4294967296 zs a → Res wo w.heap.size 36 A1 c1 (u32s zs) → Below wo.heap.size wo W → Calls Tryd.prog 8 #[.slice A1 zs.length c1] W fun e w' => e = .returned (.int .i64 (bitsOf a : Nat)) ∧ Below W.heap.size W w') := fun zs A1 c1 wo W hz hr hW =>
    ((Hv.of (K := K) hz hr h.lt).next hW).lenP hK
  have hbl := bits_limbs h.lt
  have HAL := Lib.hid h.lt
  obtain ⟨N, hN1, hN2, hN3⟩ := pow_limbs hs
  have ha : 0 < a := by
    rcases Nat.eq_zero_or_pos a with h0 | h0
    · subst h0; revert hb; decide
    · exact h0
  have hkl : k ≤ 40000 := by
    have : 1 * k ≤ bitsOf a * k := Nat.mul_le_mul_right k (by omega)
    omega
  have hz0 : Hid (∀ zs, Num 4294967296 zs a → zs.length ≠ 0) := fun zs hz e => by
    have h1 : a = 0 := by rw [← hz.2.2, List.eq_nil_of_length_eq_zero e]; rfl
    omega
  have HPL : Hid (∀ i, i ≤ k → a ^ i < 4294967296 ^ N ∧ bitsOf (a ^ i) ≤ 64000) := fun i hi => by
    have h1 : a ^ i ≤ a ^ k := Nat.pow_le_pow_right ha hi
    refine ⟨by omega, ?_⟩
    have h2 := (bits_le_iff (n := a ^ k)).1 hN3
    have h3 : bitsOf (a ^ i) ≤ 32 * N := by rw [bits_le_iff]; omega
    omega
  obtain ⟨b, hbe⟩ : ∃ b, b = bitsOf a := ⟨_, rfl⟩
  rw [← hbe] at LA LA2 hb hbl hs
  obtain ⟨d, hd⟩ : ∃ d, b = d + 1 := ⟨b - 1, by omega⟩
  have e1 : (b : Int) - 1 = (d : Int) := by omega
  have e2 : (d : Int) * (k : Int) = ((d * k : Nat) : Int) := by simp
  have hm2 : d * k ≤ 40000 := Nat.le_trans (Nat.mul_le_mul_right k (by omega)) hs
  obtain ⟨m, hm⟩ : ∃ m, m = d * k := ⟨_, rfl⟩
  rw [← hm] at e2 hm2
  have t1 : ((b : Int) == 1) = false := beq_eq_false_iff_ne.2 (by omega)
  have t2 : decide (67108864 < (k : Int)) = false := decide_eq_false (by omega)
  have t3 : decide (67108864 ≤ (m : Int)) = false := decide_eq_false (by omega)
  clear h hbe hm hs hN2 hN3 hd
  go_enter Tryd.func12, Tryd.ntmps12
  go_wp2_with fail
  refine NA.out.mono ?_
  rintro e w1 ⟨zs, A1, c1, rfl, hz, hr, hb1⟩
  have t0 : ((zs.length : Int) == 0) = false := beq_eq_false_iff_ne.2 (by have := hz0.out zs hz; omega)
  go_wp2_with fail
  refine (LA.out zs A1 c1 _ _ hz hr).mono ?_
  rintro e w2 ⟨rfl, hb2⟩
  go_wp2_with fail
  refine (LA2.out zs A1 c1 w1 w2 hz hr hb2).mono ?_
  rintro e w3 ⟨rfl, hb3⟩
  have k2 := hb1.trans (hb2.mono hb1.size)
  have k3 := k2.trans (hb3.mono k2.size)
  have hr3 : Res w3 w.heap.size 36 A1 c1 (u32s zs) := (hr.below hb2 (Nat.le_refl _)).below hb3 (Nat.le_refl _)
  have HA : Hid (∀ W, Below w3.heap.size w3 W → Hv W A1 c1 zs a K) := fun W hW => (Hv.of (K := K) hz hr3 HAL.out).next hW
  clear hz hr hb1 hb2 hb3 k2 hr3 NA LA LA2
  go_wp2_with (simp only [])
  go_loopw [4, 5, 6, 7] (fun _ _ ov iv wr => ∃ (i : Nat) (zn : List Nat) (An : Option Addr) (cn : Nat), i ≤ k ∧ iv = .int .i64 (i : Int) ∧ ov = .slice An zn.length cn ∧ Num 4294967296 zn (a ^ i) ∧ Res wr w.heap.size 36 An cn (u32s zn) ∧ Below w.heap.size w wr ∧ Below w3.heap.size w3 wr) (fun _ _ _ iv _ => k - (intOf iv).toNat)
  case atStart => exact ⟨0, [1], _, _, Nat.zero_le _, rfl, rfl, num_one, res_one w3 k3.size, k3.alloc k3.size _, (Below.refl _ _).alloc (Nat.le_refl _) _⟩
  case round =>
    obtain ⟨i, zn, An, cn, hi, rfl, rfl, hz, hr, hbel, hbe3⟩ := hrel
    have KB := Lib.hid hbel
    have K3 := Lib.hid hbe3
    by_cases hlt : i < k
    · obtain ⟨hl1, hl2⟩ := HPL.out (i + 1) (by omega)
      rw [Nat.pow_succ] at hl1 hl2
      have M1 := Lib.hid ((Hv.of (K := N) hz hr (HPL.out i hi).1).rmulP (HA.out _ hbe3) (by omega) hK)
      obtain ⟨q, hq⟩ : ∃ q, q = a ^ i * a := ⟨_, rfl⟩
      rw [← hq] at M1 hl1 hl2
      obtain ⟨bq, hbq⟩ : ∃ bq, bq = bitsOf q := ⟨_, rfl⟩
      rw [← hbq] at hl2
      have LQ : Hid (∀ (zs : List Nat) (A1 : Option Addr) (c1 B9 : Nat) (W : World), Num 4294967296 zs q → Res W B9 36 A1 c1 (u32s zs) → Calls Tryd.prog 8 #[.slice A1 zs.length c1] W fun e w' => e = .returned (.int .i64 (bq : Nat)) ∧ Below W.heap.size W w') := fun zs A1 c1 B9 W hz hr => by
        rw [hbq]
        exact (Hv.of (K := N) hz hr hl1).lenP (by omega)
      have t5 : decide (67108864 < (bq : Int)) = false := decide_eq_false (by omega)
      have Hq := Lib.hid hq
      clear hz hr hbel hbe3 hl1 hq hbq
      go_wp2_with (first
        | (go_at_call 28; (with_reducible refine M1.out.mono ?_); rintro e w4 ⟨zq, A4, c4, rfl, hz4, hr4, hb4⟩)
        | (go_at_call 8; (with_reducible refine (LQ.out zq A4 c4 _ _ hz4 hr4).mono ?_); rintro e w5 ⟨rfl, hb5⟩))
      have k4 := KB.out.trans (hb4.mono KB.out.size)
      have k5 := k4.trans (hb5.mono k4.size)
      have s3 := K3.out.size
      have j4 := K3.out.trans (hb4.mono s3)
      have j5 := j4.trans (hb5.mono j4.size)
      go_roundw
      case rel => exact ⟨i + 1, zq, A4, c4, by omega, by go_num, rfl, by rw [Nat.pow_succ, ← Hq.out]; exact hz4, (hr4.below hb5 (Nat.le_refl _)).mono KB.out.size, k5, j5⟩
      case measure => simp [intOf]; omega
    · obtain rfl : i = k := by omega
      have Hz := Lib.hid hz
      clear hz hbel hbe3
      go_wp2_with fail
      go_ret2
      exact ⟨zn, An, cn, rfl, Hz.out, hr, KB.out⟩
/-- Where a power is told: it is 1, a number below 2, or has few bits. -/
def PwS (a k : Nat) : Prop := k = 0 ∨ bitsOf a ≤ 1 ∨ bitsOf a * k ≤ 40000
theorem PwS.limbs {a k : Nat} (h : PwS a k) : ∃ J, J ≤ 2000 ∧ a ^ k < 4294967296 ^ J := by
  by_cases hk : k = 0
  · subst hk; exact ⟨1, by omega, by simp⟩
  · by_cases hb : bitsOf a ≤ 1
    · refine ⟨1, by omega, ?_⟩
      rw [small_pow hk hb]
      have := (bits_le_iff (n := a) (b := 1)).1 hb
      omega
    · obtain ⟨J, h1, h2, _⟩ := pow_limbs ((h.resolve_left hk).resolve_left hb)
      exact ⟨J, h1, h2⟩
theorem npow_all (h : Hv w A c xs a K) (hK : K ≤ 67108863) (k : Nat) (hk : k < 9223372036854775808) (hs : PwS a k) (hT : Tab32 w) (hTB : 0 < w.heap.size) : Calls Tryd.prog 10 #[.slice A xs.length c, .int .i64 (k : Int)] w fun e w' => PwE w w' (a ^ k) (.int .i64 0) e := by
  by_cases hk0 : k = 0
  · subst hk0; exact npow_zero h (by omega)
  · by_cases hb : bitsOf a ≤ 1
    · exact npow_little h (by omega) k hk0 hk hb
    · exact npow_ok h hK k hk0 (by omega) ((hs.resolve_left hk0).resolve_left hb) hT hTB
theorem rpow_all (h : Hv w A c xs a K) (hK : K ≤ 67108863) (k : Nat) (hk : k < 9223372036854775808) (hs : PwS a k) : Calls Tryd.prog 12 #[.slice A xs.length c, .int .i64 (k : Int)] w fun e w' => PwE w w' (a ^ k) (.bool true) e := by
  by_cases hb : bitsOf a ≤ 1
  · have h1 := (bits_le_iff (n := a) (b := 1)).1 hb
    have h2 : a = 0 ∨ a = 1 := by omega
    rcases h2 with rfl | rfl
    · exact rpow_zero h (by omega) k hk
    · exact rpow_one h (by omega) k hk
  · rcases hs with rfl | h1 | h1
    · exact rpow_ok h (by omega) 0 (by omega) (by omega)
    · exact absurd h1 hb
    · exact rpow_ok h (by omega) k (by omega) h1
theorem rpow_much (h : Hv w A c xs a K) (hK : K ≤ 67108864) (k : Nat) (hk : k < 9223372036854775808) (hb : 2 ≤ bitsOf a) (hbig : 67108864 ≤ k * (bitsOf a - 1)) : Calls Tryd.prog 12 #[.slice A xs.length c, .int .i64 (k : Int)] w fun e w' => PwF w w' (.bool false) e := by
  by_cases h1 : k ≤ 67108864
  · exact rpow_big2 h hK k h1 hb hbig
  · exact rpow_big1 h hK k (by omega) hk hb
end
end Go.Proofs.YtanlejlmckdeiaaDoor
