/- The contracts of rat.Sign, rat.Cmp and rat.Floor, and of the. The contract of nat.power on a number that is held. The contracts of the reference's operations that its Sqrt an. The contracts of TrailingZeros32 and of nat.Trail. -/
import Derived.Test.YtbcphifjcaobfaaGreatDoorPkRp39
import Derived.Test.YtbcphifjcaobfaaGreatDoorPkRp13
import Derived.Test.YtbcphifjcaobfaaGreatDoorPkRp4
import Derived.Test.YtbcphifjcaobfaaGreatDoorPkRp1
import Derived.Test.YtbcphifjcaobfaaGreatDoorPkRp20
import Derived.Test.YtbcphifjcaobfaaGreatDoorPkRp6
import Derived.Test.YtbcphifjcaobfaaGreatDoorPkRp22
import Derived.Test.YtbcphifjcaobfaaGreatDoorPkRp19
import Derived.Test.YtbcphifjcaobfaaGreatDoorPkRp21
import Derived.Test.YtbcphifjcaobfaaGreatDoorPkRp5
import Derived.Shelf.Spec.TrailingZeros
namespace Go.Proofs.YtbcphifjcaobfaaGreatDoor
section
open Go.RowKit
def IE (w w' : World) (z er : Int) (e : Ending) : Prop := ∃ (s0 : Bool) (s1 : Option Addr) (s2 s3 : Nat), e = .returned (.tuple #[.agg #[.bool s0, .slice s1 s2 s3], .int .i64 er]) ∧ IN w' w.heap.size (.bool s0) (.slice s1 s2 s3) z ∧ Below w.heap.size w w'
end
section
open Go.RowKit
theorem len_word (x : Nat) (w : World) (h : x < 18446744073709551616) : Calls Tryz.prog 170 #[.int .u64 (x : Int)] w fun e w' => e = .returned (.int .i64 (Lib.bitLen x : Int)) ∧ w = w' :=
 (Go.Proofs.Tryz.bits_Len (x : Int) w (by omega) (by omega)).mono fun _ _ ⟨he, hw⟩ => ⟨by rw [he]; simp, hw.symm⟩
theorem pow_half {a k : Nat} : a ^ (k / 2) * a ^ (k / 2) * (if k % 2 = 1 then a else 1) = a ^ k := by
 have h : k = k / 2 + k / 2 + k % 2 := by omega
 conv => rhs; rw [h, Nat.pow_add, Nat.pow_add]
 rcases Nat.mod_two_eq_zero_or_one k with e | e <;> rw [e] <;> simp
theorem shift_step (k i : Nat) : k / 2 ^ (i + 1) = k / 2 ^ i / 2 := by rw [Nat.pow_succ, Nat.div_div_eq_div_mul]
theorem pow_bit {a k i : Nat} : a ^ (k / 2 ^ (i + 1)) * a ^ (k / 2 ^ (i + 1)) * (if k / 2 ^ i % 2 = 1 then a else 1) = a ^ (k / 2 ^ i) := by rw [shift_step]; exact pow_half
theorem top_bit {k : Nat} (hk : 1 ≤ k) (h2 : k < 18446744073709551616) : 1 ≤ Lib.bitLen k ∧ Lib.bitLen k ≤ 64 ∧ k / 2 ^ (Lib.bitLen k - 1) = 1 := by
 obtain ⟨h3, h4, h5⟩ := bitLen_bounds k h2 (by omega)
 refine ⟨h3, bitLen_le64 k h2, ?_⟩
 have e : 2 ^ Lib.bitLen k = 2 ^ (Lib.bitLen k - 1) * 2 := by rw [← Nat.pow_succ]; congr 1; omega
 rw [e] at h5
 exact Nat.div_eq_of_lt_le (by omega) (by omega)
def PwOut (w w' : World) (n : Nat) (e : Ending) : Prop := ∃ zs A' c', e = .returned (.slice A' zs.length c') ∧ Num 4294967296 zs n ∧ Res w' w.heap.size 50 A' c' (u32s zs) ∧ Below w.heap.size w w'
theorem Hv.mulP {w : World} {A A2 : Option Addr} {c c2 n k K J : Nat} {xs ys : List Nat} (h : Hv w A c xs n K) (h2 : Hv w A2 c2 ys k J) (hK : K ≤ 67108864) (hJ : J ≤ 67108864) : Calls Tryz.prog 106 #[.slice A xs.length c, .slice A2 ys.length c2] w fun e w' => PwOut w w' (n * k) e := by
 have hl1 := h.len
 have hl2 := h2.len
 have t1 := trimL_length_le xs
 have t2 := trimL_length_le ys
 have h9 := mul_any A A2 c c2 xs ys w w.heap.size h.rd h2.rd nl9 h.dig h2.dig h.cap h2.cap (by omega) (by omega) (by omega)
 rwa [h.val_, h2.val_] at h9
theorem bit_flag (k i : Nat) (h : k < 4611686018427387904) : bits .and .i64 ((k : Int) / 2 ^ i) 1 = ((k / 2 ^ i % 2 : Nat) : Int) := by
 have hle : k / 2 ^ i ≤ k := Nat.div_le_self _ _
 rw [show (k : Int) / 2 ^ i = ((k / 2 ^ i : Nat) : Int) from by rw [Int.natCast_ediv, Int.natCast_pow]; rfl]
 obtain ⟨x, hx⟩ : ∃ x, x = k / 2 ^ i := ⟨_, rfl⟩
 rw [← hx] at hle ⊢
 have h3 : x &&& 1 < 2 ^ 1 := Nat.and_lt_two_pow _ (by omega)
 have h1 : (BitVec.ofInt 64 (x : Int)).toNat = x := by
  rw [BitVec.ofInt_natCast, BitVec.toNat_ofNat]; exact Nat.mod_eq_of_lt (by omega)
 have h2 : (BitVec.ofInt 64 1).toNat = 1 := by decide
 show IntKind.i64.wrap ((BitVec.ofInt 64 (x : Int) &&& BitVec.ofInt 64 1).toNat : Int) = _
 rw [BitVec.toNat_and, h1, h2, IntKind.wrap_i64, Nat.and_one_is_mod]
 omega
set_option maxHeartbeats 3200000 in
theorem power_any {A : Option Addr} {c : Nat} {ps : List Nat} {a k K N : Nat} {w : World} (h : Hv w A c ps a K) (hK : K ≤ 67108864) (ha : 1 ≤ a) (hk : 1 ≤ k) (hk2 : k < 4611686018427387904) (hN : a ^ k < 4294967296 ^ N) (hNb : N ≤ 67108864) :
  Calls Tryz.prog 152 #[.slice A ps.length c, .int .i64 (k : Int)] w fun e w' => PwOut w w' (a ^ k) e := by
 have hlen := h.len
 have hn : Num 4294967296 (trimL ps) a := by rw [← h.val_]; exact Num.of_trim h.dig
 have Hn := hi9 (norm_any A c ps w w.heap.size h.rd nl9 h.cap (by omega))
 obtain ⟨qs, hqs⟩ : ∃ qs, qs = trimL ps := ⟨_, rfl⟩
 rw [← hqs] at hn Hn
 obtain ⟨hb1, hb2, hb3⟩ := top_bit hk (by omega)
 have BL : Hid (∀ W, Calls Tryz.prog 170 #[.int .u64 (k : Int)] W fun e w' => e = .returned (.int .i64 (Lib.bitLen k : Int)) ∧ W = w') := fun W => len_word k W (by omega)
 obtain ⟨bl, hbl⟩ : ∃ bl, bl = Lib.bitLen k := ⟨_, rfl⟩
 rw [← hbl] at hb1 hb2 hb3 BL
 have HT := hi9 hb3
 have HH := hi9 h
 have HN := hi9 hN
 clear h hN hb3 hbl hqs hlen
 go_enter Tryz.func152, Tryz.ntmps152
 go_wp2_with (first
  | (go_at_call 117; (with_reducible refine Hn.out.mono ?_); rintro e w1 ⟨A1, c1, rfl, hr1, hbel1⟩)
  | (go_at_call 170; (with_reducible refine (BL.out _).mono ?_); rintro e w' ⟨rfl, rfl⟩))
 obtain ⟨j0, rfl⟩ : ∃ j0, bl = j0 + 1 := ⟨bl - 1, by omega⟩
 rw [Nat.add_sub_cancel] at HT
 clear Hn BL
 go_loopw [5, 6] (fun ov iv wr => ∃ (j : Nat) (zn : List Nat) (An : Option Addr) (cn : Nat), j ≤ j0 ∧ iv = .int .i64 ((j : Int) - 1) ∧ ov = .slice An zn.length cn ∧ Num 4294967296 zn (a ^ (k / 2 ^ j)) ∧ Res wr w.heap.size 50 An cn (u32s zn) ∧ Below w.heap.size w wr) (fun _ iv _ => (intOf iv + 1).toNat)
 case atStart => exact ⟨j0, qs, A1, c1, Nat.le_refl _, by congr 1; omega, rfl, by rw [HT.out, Nat.pow_one]; exact hn, hr1, hbel1⟩
 case round =>
  obtain ⟨j, zn, An, cn, hj, rfl, rfl, hz, hr, hbel⟩ := hrel
  clear hn hr1 hbel1 HT
  cases j with
  | zero =>
   have e0 : k / 2 ^ 0 = k := by simp
   rw [e0] at hz
   have Hz := hi9 hz
   clear e0 hz
   go_wp2_with fail
   go_ret
   exact ⟨zn, An, cn, rfl, Hz.out, hr, hbel⟩
  | succ i =>
   have e1 : ((i + 1 : Nat) : Int) - 1 = (i : Int) := by omega
   rw [e1]
   have hpb := @pow_bit a k i
   have hle : a ^ (k / 2 ^ i) ≤ a ^ k := Nat.pow_le_pow_right ha (Nat.div_le_self _ _)
   have hN1 := HN.out
   obtain ⟨P, hP⟩ : ∃ P, P = a ^ (k / 2 ^ (i + 1)) := ⟨_, rfl⟩
   obtain ⟨Q, hQ⟩ : ∃ Q, Q = a ^ (k / 2 ^ i) := ⟨_, rfl⟩
   rw [← hP] at hz hpb
   rw [← hQ] at hpb hle
   have hP1 : 1 ≤ P := by rw [hP]; exact Nat.pow_pos (by omega)
   have hbit : (k / 2 ^ i) % 2 = 0 ∨ (k / 2 ^ i) % 2 = 1 := by omega
   have fl := bit_flag k i hk2
   have hi : i ≤ 63 := by omega
   obtain ⟨b, hb⟩ : ∃ b, b = k / 2 ^ i % 2 := ⟨_, rfl⟩
   rw [← hb] at fl hpb hbit
   have hPP : P * P ≤ Q := by
    rw [← hpb]
    refine Nat.le_mul_of_pos_right _ ?_
    split <;> omega
   have hPle : P ≤ P * P := Nat.le_mul_of_pos_left _ hP1
   have hHz : Hv wr An cn zn P N := Hv.of hz hr (by omega)
   have M1 := hi9 (hHz.mulP hHz hNb hNb)
   obtain ⟨S, hS⟩ : ∃ S, S = P * P := ⟨_, rfl⟩
   rw [← hS] at hpb M1 hPP
   have HQ := hi9 hQ
   have KB := hi9 hbel
   have SL : Hid (S < 4294967296 ^ N) := by show _ < _; omega
   clear hz hr hHz hP hQ hb hle hN1 hPP hPle hS hP1 hbel e1
   rcases hbit with rfl | rfl
   ·have hSQ : Hid (S = Q) := by show _ = _; simpa using hpb
    clear hpb
    go_wp2_with (first
     | (go_at_call 106; (with_reducible refine M1.out.mono ?_); rintro e w2 ⟨zs, A2, c2, rfl, hz2, hr2, hb2⟩)
     | simp only [])
    have k2 : Below w.heap.size w w2 := KB.out.trans (hb2.mono KB.out.size)
    go_roundw
    case rel => exact ⟨i, zs, A2, c2, by omega, by go_num, rfl, by rw [← HQ.out, ← hSQ.out]; exact hz2, hr2.mono KB.out.size, k2⟩
    case measure => simp [intOf]
   ·have hSQ : Hid (S * a = Q) := by show _ = _; simpa using hpb
    have M2 : Hid (∀ (zs : List Nat) (A2 : Option Addr) (c2 : Nat) (W : World), Below wr.heap.size wr W → Num 4294967296 zs S → Res W wr.heap.size 50 A2 c2 (u32s zs) → Calls Tryz.prog 106 #[.slice A2 zs.length c2, .slice A ps.length c] W fun e w' => PwOut W w' (S * a) e) := fun zs A2 c2 W hW hz2 hr2 =>
     (Hv.of hz2 hr2 SL.out).mulP (HH.out.next (KB.out.trans (hW.mono KB.out.size))) hNb hK
    clear hpb
    go_wp2_with (first
     | (go_at_call_of 106 (Value.slice An zn.length cn); (with_reducible refine M1.out.mono ?_); rintro e w2 ⟨zs, A2, c2, rfl, hz2, hr2, hb2⟩)
     | (go_at_call 106; (with_reducible refine (M2.out zs A2 c2 _ hb2 hz2 hr2).mono ?_); rintro e w3 ⟨zt, A3, c3, rfl, hz3, hr3, hb3⟩)
     | simp only [])
    have k2 : Below w.heap.size w w2 := KB.out.trans (hb2.mono KB.out.size)
    have k3 : Below w.heap.size w w3 := k2.trans (hb3.mono k2.size)
    go_roundw
    case rel => exact ⟨i, zt, A3, c3, by omega, by go_num, rfl, by rw [← HQ.out, ← hSQ.out]; exact hz3, hr3.mono k2.size, k3⟩
    case measure => simp [intOf]
end
section
open Go.RowKit
section
variable {w w' : World} {A A2 : Option Addr} {c c2 n k K J : Nat} {xs ys : List Nat}
theorem Hv.normP (h : Hv w A c xs n K) (hK : K ≤ 67108864) : Calls Tryz.prog 90 #[.slice A xs.length c] w fun e w' => PwOut w w' n e := by
 have hl1 := h.len
 refine (rnorm_any A c xs w w.heap.size h.rd nl9 (by omega)).mono ?_
 rintro e w' ⟨A', c', rfl, hr, hb⟩
 exact ⟨_, A', c', rfl, by rw [← h.val_]; exact Num.of_trim h.dig, hr, hb⟩
theorem Hv.addP (h : Hv w A c xs n K) (h2 : Hv w A2 c2 ys k J) (hK : K ≤ 67108864) (hJ : J ≤ 67108864) : Calls Tryz.prog 119 #[.slice A xs.length c, .slice A2 ys.length c2] w fun e w' => PwOut w w' (n + k) e := by
 have hl1 := h.len
 have hl2 := h2.len
 have h9 := radd_any A A2 c c2 xs ys w w.heap.size h.rd h2.rd nl9 h.dig h2.dig (by omega) (by omega)
 rwa [h.val_, h2.val_] at h9
theorem Hv.rmulP (h : Hv w A c xs n K) (h2 : Hv w A2 c2 ys k J) (hK : K ≤ 67108864) (hJ : J ≤ 67108864) : Calls Tryz.prog 122 #[.slice A xs.length c, .slice A2 ys.length c2] w fun e w' => PwOut w w' (n * k) e := by
 have hl1 := h.len
 have hl2 := h2.len
 have t1 := trimL_length_le xs
 have t2 := trimL_length_le ys
 have h9 := rmul_any A A2 c c2 xs ys w w.heap.size h.rd h2.rd nl9 h.dig h2.dig (by omega) (by omega) (by omega)
 rwa [h.val_, h2.val_] at h9
theorem Hv.lenP (h : Hv w A c xs n K) (hK : K ≤ 67108864) : Calls Tryz.prog 41 #[.slice A xs.length c] w fun e w' => e = .returned (.int .i64 (bitsOf n : Nat)) ∧ Below w.heap.size w w' := by
 have hl1 := h.len
 have h9 := rlen_any A c xs w w.heap.size h.rd nl9 h.dig (by omega)
 rwa [h.val_] at h9
end
theorem bits_lt {n : Nat} : n < 2 ^ bitsOf n := by
 unfold bitsOf
 split
 ·subst_vars; decide
 ·exact Nat.lt_log2_self
theorem bits_ge {n : Nat} (h : 0 < n) : 1 ≤ bitsOf n ∧ 2 ^ (bitsOf n - 1) ≤ n := by
 unfold bitsOf
 rw [if_neg (by omega)]
 exact ⟨by omega, Nat.log2_self_le (by omega)⟩
theorem bits_le_iff {n b : Nat} : bitsOf n ≤ b ↔ n < 2 ^ b := by
 constructor
 ·intro h
  exact Nat.lt_of_lt_of_le bits_lt (Nat.pow_le_pow_right (by omega) h)
 ·intro h
  rcases Nat.eq_zero_or_pos n with h0 | h0
  ·subst h0; exact Nat.zero_le _
  ·obtain ⟨h1, h2⟩ := bits_ge h0
   rcases Nat.lt_or_ge b (bitsOf n) with g | g
   ·have : 2 ^ b ≤ 2 ^ (bitsOf n - 1) := Nat.pow_le_pow_right (by omega) (by omega)
    omega
   ·exact g
theorem bits_limbs {n K : Nat} (h : n < 4294967296 ^ K) : bitsOf n ≤ 32 * K := by
 rw [bits_le_iff, Nat.pow_mul]
 exact h
end
section
open Go.RowKit
def Tab32 (w : World) : Prop := TabAt 0 Lib.deBruijn32tab w
theorem Tab32.below {w w' : World} {B : Nat} (h : Tab32 w) (hb : Below B w w') (hB : 0 < B) : Tab32 w' := fun j hj => (hb.cell (p := ⟨_, j, none⟩) hB).trans (h j hj)
theorem Tab32.dr {w w' : World} (h : Tab32 w) (hd : Dr w w') : Tab32 w' := by
 obtain ⟨n, rfl⟩ := hd
 exact h
set_option maxHeartbeats 800000 in
theorem tz32_any (x : Nat) (hx : x < 4294967296) (h0 : x ≠ 0) (w : World) (hT : Tab32 w) :
  Calls Tryz.prog 168 #[.int .u32 (x : Int)] w fun e w' => e = .returned (.int .i64 (Lib.ctz 32 x : Nat)) ∧ w = w' := by
 obtain ⟨hlow, hk⟩ := Lib.lowest_bit 32 x h0 hx
 obtain ⟨hi, htab⟩ := Lib.deBruijn32_at _ hk
 have hcell := hT _ hi
 rw [htab] at hcell
 have key := tz32_key x _ hx h0 hlow
 obtain ⟨k, hke⟩ : ∃ k, k = Lib.ctz 32 x := ⟨_, rfl⟩
 obtain ⟨idx, hidx⟩ : ∃ idx, idx = 2 ^ k * 125613361 % 4294967296 / 134217728 := ⟨_, rfl⟩
 rw [← hke, ← hidx] at hi hcell key
 rw [← hke] at hk ⊢
 have hx0 : ((x : Int) == 0) = false := by simp; omega
 clear hlow htab hT hke hidx h0
 go_enter Tryz.func168, Tryz.ntmps168
 go_wp2_with (simp only [key])
 go_ret
 exact ⟨rfl, rfl⟩
set_option maxHeartbeats 800000 in
theorem trail_any (A : Option Addr) (c : Nat) (xs : List Nat) (w : World) (B : Nat) (hr : Rd w B A (u32s xs)) (hd : Dig 4294967296 xs) (hm : xs.length ≤ 281474976710656) (hT : Tab32 w) :
  Calls Tryz.prog 150 #[.slice A xs.length c] w fun e w' => ∃ t : Nat, e = .returned (.int .i64 (t : Int)) ∧ TrailIs xs t ∧ w = w' := by
 go_enter Tryz.func150, Tryz.ntmps150
 go_wp2
 go_loopw [3, 4, 7] (fun _ _ i wr => ∃ k : Nat, k ≤ xs.length ∧ i = .int .i64 k ∧ wr = w ∧ ∀ j, j < k → at0 xs j = 0) (fun _ _ i _ => xs.length - (intOf i).toNat)
 case atStart => exact ⟨0, by omega, rfl, rfl, fun j hj => by omega⟩
 case round =>
  obtain ⟨k, hk, rfl, rfl, hz⟩ := hrel
  by_cases hlt : k < xs.length
  ·obtain ⟨b, off, rfl, hb, hcell⟩ := hr (by intro e; have := u32s_length xs; rw [e] at this; simp at this; omega)
   have hx := hcell k _ (u32s_at hlt)
   have hxd := hd.at_ k hlt
   have Hz := hi9 hz
   by_cases h0 : xs[k] = 0
   ·rw [h0] at hx
    have H0 := hi9 h0
    clear h0 hxd hcell hr hz
    go_wp2
    go_roundw
    case rel => exact ⟨k + 1, by omega, by go_num, by trivial, fun j hj => by
     rcases Nat.lt_or_ge j k with h | h
     ·exact Hz.out j h
     ·obtain rfl : j = k := by omega
      rw [at0_in hlt]; exact H0.out⟩
    case measure => simp [intOf]; omega
   ·have Htr := hi9 (trail_at hlt hz (low_of h0 hxd))
    have Htz := hi9 (tz32_any xs[k] hxd h0 wr hT)
    have hctl := (low_of h0 hxd).lt
    obtain ⟨t, ht⟩ : ∃ t, t = Lib.ctz 32 xs[k] := ⟨_, rfl⟩
    rw [← ht] at Htr Htz hctl
    obtain ⟨x, hxe⟩ : ∃ x, x = xs[k] := ⟨_, rfl⟩
    rw [← hxe] at hx Htz h0 hxd
    have t1 : ((x : Int) == 0) = false := by simp; omega
    clear hcell hr hz ht hxe h0
    go_wp2_with (go_at_call 168; (with_reducible refine Htz.out.mono ?_); rintro e w' ⟨rfl, rfl⟩)
    go_ret
    exact ⟨32 * k + t, by simp, Htr.out, rfl⟩
  ·obtain rfl : k = xs.length := by omega
   have Hz := hi9 hz
   clear hz
   go_wp2
   go_ret
   exact ⟨0, rfl, trail_none Hz.out, rfl⟩
theorem trail_exists (xs : List Nat) : ∃ t, TrailIs xs t := by
 have h : ∀ m, (∀ j, j < m → bitAt xs j ≠ 1) ∨ ∃ t, t < m ∧ bitAt xs t = 1 ∧ ∀ j, j < t → bitAt xs j ≠ 1 := by
  intro m
  induction m with
  | zero => exact Or.inl fun j hj => by omega
  | succ m ih =>
   rcases ih with ih | ⟨t, h1, h2, h3⟩
   ·by_cases hb : bitAt xs m = 1
    ·exact Or.inr ⟨m, by omega, hb, ih⟩
    ·refine Or.inl fun j hj => ?_
     rcases Nat.lt_or_ge j m with h | h
     ·exact ih j h
     ·obtain rfl : j = m := by omega
      exact hb
   ·exact Or.inr ⟨t, by omega, h2, h3⟩
 rcases h (32 * xs.length) with h | ⟨t, h1, h2, h3⟩
 ·exact ⟨0, Or.inr ⟨rfl, h⟩⟩
 ·exact ⟨t, Or.inl ⟨h1, h2, h3⟩⟩
theorem TrailIs.unique {xs : List Nat} {s t : Nat} (h : TrailIs xs s) (k : TrailIs xs t) : s = t := by
 rcases h with ⟨a, b, c⟩ | ⟨rfl, c⟩ <;> rcases k with ⟨a', b', c'⟩ | ⟨rfl, c'⟩
 ·rcases Nat.lt_trichotomy s t with h | h | h
  ·exact absurd b (c' s h)
  ·exact h
  ·exact absurd b' (c t h)
 ·exact absurd b (c' s a)
 ·exact absurd b' (c t a')
 ·rfl
theorem trail_fix (A : Option Addr) (c : Nat) (xs : List Nat) (t : Nat) (ht : TrailIs xs t) (w : World) (B : Nat) (hr : Rd w B A (u32s xs)) (hd : Dig 4294967296 xs) (hm : xs.length ≤ 281474976710656) (hT : Tab32 w) :
  Calls Tryz.prog 150 #[.slice A xs.length c] w fun e w' => e = .returned (.int .i64 (t : Int)) ∧ w = w' :=
 (trail_any A c xs w B hr hd hm hT).mono fun e w' ⟨s, he, hs, hw⟩ => ⟨by rw [he, hs.unique ht], hw⟩
end
end Go.Proofs.YtbcphifjcaobfaaGreatDoor
