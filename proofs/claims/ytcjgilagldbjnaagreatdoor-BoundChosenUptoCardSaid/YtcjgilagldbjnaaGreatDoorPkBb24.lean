/- The numbers behind a division in blocks. The contract of blockQuotient. The contract of quotient. The contracts of nat's operations on numbers that are held. Plain numbers: a sign and a size as an integer; quotients by. -/
import Derived.Test.YtcjgilagldbjnaaGreatDoorPkBb23
import Derived.Laws.CopyOwn
import Derived.Test.YtcjgilagldbjnaaGreatDoorPkBb21
import Derived.Test.YtcjgilagldbjnaaGreatDoorPkBb18
import Derived.Test.YtcjgilagldbjnaaGreatDoorPkBb14
namespace Go.Proofs.YtcjgilagldbjnaaGreatDoor
section
open Go.RowKit
structure Blocks (U2 V2 sz bl K : Nat) (qs : List Nat) (r : Nat) : Prop where
 len : qs.length = bl * sz
 le : K ≤ bl
 noughts : qs.take (K * sz) = List.replicate (K * sz) 0
 dig : Dig 18446744073709551616 qs
 eq : val 18446744073709551616 qs * V2 + 18446744073709551616 ^ (K * sz) * r + U2 % 18446744073709551616 ^ (K * sz) = U2
 lt : r < V2
theorem Blocks.start {U2 V2 sz bl : Nat} (hV : 0 < V2) (hU : U2 < 18446744073709551616 ^ (bl * sz)) : Blocks U2 V2 sz bl bl (List.replicate (bl * sz) 0) 0 where
 len := List.length_replicate
 le := Nat.le_refl _
 noughts := by rw [List.take_replicate, Nat.min_self]
 dig := Dig.zeros_ (by omega) _
 eq := by rw [val_zeros, Nat.zero_mul, Nat.mul_zero, Nat.zero_add, Nat.mod_eq_of_lt hU]
 lt := hV
theorem Blocks.end_ {U2 V2 sz bl r : Nat} {qs : List Nat} (h : Blocks U2 V2 sz bl 0 qs r) : val 18446744073709551616 qs = U2 / V2 ∧ r = U2 % V2 := by
 have h1 := h.eq
 rw [Nat.zero_mul, Nat.pow_zero, Nat.one_mul, Nat.mod_one, Nat.add_zero] at h1
 refine bz_done (V := V2) (by omega) ?_
 have := h.lt
 rw [Nat.add_mul, Nat.one_mul]
 omega
theorem Blocks.next {U2 V2 sz bl k r X : Nat} {qs D : List Nat} (h : Blocks U2 V2 sz bl (k + 1) qs r) (hX : X = U2 / 18446744073709551616 ^ (k * sz) % 18446744073709551616 ^ sz + 18446744073709551616 ^ sz * r) (hD : Dig 18446744073709551616 D) (hv : val 18446744073709551616 D = X / V2) (hl : D.length ≤ sz) :
  Blocks U2 V2 sz bl k (patch qs (k * sz) D) (X % V2) := by
 have e1 : (k + 1) * sz = k * sz + sz := Nat.succ_mul k sz
 have hle : k * sz + sz ≤ qs.length := by rw [h.len, ← e1]; exact Nat.mul_le_mul_right _ h.le
 obtain ⟨a, ha⟩ : ∃ a, a = k * sz := ⟨_, rfl⟩
 have hn := h.noughts
 have he := h.eq
 rw [e1, ← ha] at hn he
 rw [← ha] at hX hle
 have hseg : (qs.drop a).take D.length = List.replicate D.length 0 := by
  have h2 : ((qs.take (a + sz)).drop a).take D.length = (qs.drop a).take D.length := by
   rw [List.drop_take, List.take_take, Nat.min_eq_left (by omega)]
  rw [← h2, hn, List.drop_replicate, List.take_replicate, Nat.min_eq_left (by omega)]
 have hp := patch_val 18446744073709551616 (L := qs) (o := a) (zs := D) (by omega)
 rw [hseg, val_zeros, Nat.mul_zero, Nat.add_zero, hv] at hp
 have hV : 0 < V2 := by have := h.lt; omega
 refine { len := by rw [patch_length (by rw [← ha]; omega), h.len], le := by have := h.le; omega, noughts := ?_, dig := patch_dig h.dig hD, eq := ?_, lt := Nat.mod_lt _ hV }
 ·rw [← ha]
  have h3 : qs.take a = List.replicate a 0 := by
   have h4 : (qs.take (a + sz)).take a = qs.take a := by rw [List.take_take, Nat.min_eq_left (by omega)]
   rw [← h4, hn, List.take_replicate, Nat.min_eq_left (by omega)]
  unfold patch
  rw [List.append_assoc, List.take_append_of_le_length (by rw [List.length_take]; omega), List.take_take, Nat.min_self, h3]
 ·rw [← ha, hp]
  rw [Nat.pow_add, Nat.mod_mul] at he
  have h5 := Nat.div_add_mod X V2
  generalize 18446744073709551616 ^ a = W1 at *
  generalize 18446744073709551616 ^ sz = W2 at *
  generalize val 18446744073709551616 qs = Q at *
  generalize X / V2 = d at *
  generalize X % V2 = m at *
  generalize U2 / W1 % W2 = t at *
  generalize U2 % W1 = u at *
  have h6 : W1 * (V2 * d + m) = W1 * (t + W2 * r) := by rw [h5, hX]
  grind
end
section
open Go.RowKit
end
section
open Go.RowKit
theorem Words.res {w w' : World} {zs : List Nat} {g : Nat} (hg : w.heap.size ≤ g) (hb : Blk w' g 53 (u64s zs)) (hl : zs.length ≤ 281474976710656) : Res w' w.heap.size 53 (some ⟨g, 0, none⟩) zs.length (u64s zs) := by
 have e : (u64s zs).length = zs.length := u64s_length zs
 refine ⟨Nat.le_of_eq e, hl, fun _ => ⟨g, [], rfl, hg, ?_, ?_⟩⟩
 ·rw [List.append_nil]; exact hb
 ·rw [List.length_nil, Nat.add_zero]; exact e
end
section
open Go.RowKit
structure Hd (w : World) (A : Option Addr) (c : Nat) (xs : List Nat) (n N : Nat) : Prop where
 num : Num 4294967296 xs n
 rd : Rd w w.heap.size A (u32s xs)
 cap : xs.length ≤ c
 len : xs.length ≤ N
theorem Hd.next {w w' : World} {A : Option Addr} {c n N : Nat} {xs : List Nat} (h : Hd w A c xs n N) (hb : Below w.heap.size w w') : Hd w' A c xs n N := ⟨h.num, (h.rd.below hb).mono hb.size, h.cap, h.len⟩
theorem num32_len {zs : List Nat} {n m N : Nat} (h : Num 4294967296 zs n) (hle : n ≤ m) (hm : m < 4294967296 ^ N) : zs.length ≤ N := by
 have := trimL_len_le (b := 4294967296) (N := N) (by omega) h.1 (by rw [h.2.2]; omega)
 rwa [h.2.1] at this
theorem Hd.of {w : World} {B : Nat} {A : Option Addr} {c n m N : Nat} {xs : List Nat} (h : Num 4294967296 xs n) (hr : Res w B 34 A c (u32s xs)) (hle : n ≤ m) (hm : m < 4294967296 ^ N) : Hd w A c xs n N :=
 ⟨h, hr.rd, by have := hr.1; rwa [u32s_length] at this, num32_len h hle hm⟩
structure Hv (w : World) (A : Option Addr) (c : Nat) (xs : List Nat) (n K : Nat) : Prop where
 dig : Dig 4294967296 xs
 val_ : val 4294967296 xs = n
 rd : Rd w w.heap.size A (u32s xs)
 cap : xs.length ≤ c
 len : xs.length ≤ K
section
variable {w w' : World} {A A2 : Option Addr} {c c2 n k K J : Nat} {xs ys : List Nat}
theorem Hv.next (h : Hv w A c xs n K) (hb : Below w.heap.size w w') : Hv w' A c xs n K := ⟨h.dig, h.val_, (h.rd.below hb).mono hb.size, h.cap, h.len⟩
theorem Hv.lt (h : Hv w A c xs n K) : n < 4294967296 ^ K := by
 rw [← h.val_]
 exact Nat.lt_of_lt_of_le (val_lt _ _ h.dig) (Nat.pow_le_pow_right (by omega) h.len)
def HvOut (w w' : World) (n K : Nat) (e : Ending) : Prop := ∃ zs A' c', e = .returned (.slice A' zs.length c') ∧ Hv w' A' c' zs n K ∧ Below w.heap.size w w'
theorem Hv.of {B : Nat} (h : Num 4294967296 xs n) (hr : Res w B 34 A c (u32s xs)) (hm : n < 4294967296 ^ K) : Hv w A c xs n K :=
 ⟨h.1, h.2.2, hr.rd, by have := hr.1; rwa [u32s_length] at this, num32_len h nl9 hm⟩
theorem sum_lt_pow9 {b i j : Nat} (hb : 2 ≤ b) (hn : n < b ^ i) (hk : k < b ^ j) : n + k < b ^ (max i j + 1) := by
 have h1 : b ^ i ≤ b ^ max i j := Nat.pow_le_pow_right (by omega) (by omega)
 have h2 : b ^ j ≤ b ^ max i j := Nat.pow_le_pow_right (by omega) (by omega)
 have h3 : b ^ max i j * 2 ≤ b ^ max i j * b := Nat.mul_le_mul_left _ hb
 rw [Nat.pow_succ]
 omega
theorem prod_lt_pow9 {b i j : Nat} (hn : n < b ^ i) (hk : k < b ^ j) : n * k < b ^ (i + j) := by
 rw [Nat.pow_add]
 exact Nat.mul_lt_mul'' hn hk
theorem Hv.add (h : Hv w A c xs n K) (h2 : Hv w A2 c2 ys k J) (hK : K ≤ 67108864) (hJ : J ≤ 67108864) :
  Calls Tryz.prog 19 #[.slice A xs.length c, .slice A2 ys.length c2] w fun e w' => HvOut w w' (n + k) (max K J + 1) e := by
 have hl1 := h.len
 have hl2 := h2.len
 have h9 := add_any A A2 c c2 xs ys w w.heap.size h.rd h2.rd nl9 h.dig h2.dig h.cap h2.cap (by omega) (by omega)
 rw [h.val_, h2.val_] at h9
 refine h9.mono ?_
 rintro e w' ⟨zs, A', c', rfl, hz, hr, hb⟩
 exact ⟨zs, A', c', rfl, Hv.of hz hr (sum_lt_pow9 (by omega) h.lt h2.lt), hb⟩
theorem Hv.mul (h : Hv w A c xs n K) (h2 : Hv w A2 c2 ys k J) (hK : K ≤ 67108864) (hJ : J ≤ 67108864) :
  Calls Tryz.prog 44 #[.slice A xs.length c, .slice A2 ys.length c2] w fun e w' => HvOut w w' (n * k) (K + J) e := by
 have hl1 := h.len
 have hl2 := h2.len
 have t1 := trimL_length_le xs
 have t2 := trimL_length_le ys
 have h9 := mul_any A A2 c c2 xs ys w w.heap.size h.rd h2.rd nl9 h.dig h2.dig h.cap h2.cap (by omega) (by omega) (by omega)
 rw [h.val_, h2.val_] at h9
 refine h9.mono ?_
 rintro e w' ⟨zs, A', c', rfl, hz, hr, hb⟩
 exact ⟨zs, A', c', rfl, Hv.of hz hr (prod_lt_pow9 h.lt h2.lt), hb⟩
theorem Hv.sub (h : Hv w A c xs n K) (h2 : Hv w A2 c2 ys k J) (hK : K ≤ 67108864) (hJ : J ≤ 67108864) (hle : k ≤ n) :
  Calls Tryz.prog 110 #[.slice A xs.length c, .slice A2 ys.length c2] w fun e w' => ∃ zs A' c', e = .returned (.tuple #[.slice A' zs.length c', .int .i64 0]) ∧ Hv w' A' c' zs (n - k) K ∧ Below w.heap.size w w' := by
 have hl1 := h.len
 have hl2 := h2.len
 have h9 := sub_any A A2 c c2 xs ys w w.heap.size h.rd h2.rd nl9 h.dig h2.dig h.cap h2.cap (by omega) (by omega)
 rw [h.val_, h2.val_] at h9
 refine h9.mono ?_
 rintro e w' ⟨zs, A', c', rfl, hz, hr, hb⟩
 exact ⟨zs, A', c', by rw [if_neg (by omega)], Hv.of hz hr (Nat.lt_of_le_of_lt (Nat.sub_le _ _) h.lt), hb⟩
theorem Hv.nlen (h : Hv w A c xs n K) (hK : K ≤ 67108864) :
  Calls Tryz.prog 62 #[.slice A xs.length c] w fun e w' => e = .returned (.int .i64 (bitsOf n : Nat)) ∧ w = w' := by
 have hl1 := h.len
 have h9 := len_any A c xs w w.heap.size h.rd h.dig h.cap (by omega)
 rwa [h.val_] at h9
end
end
section
def ivalN (g : Bool) (n : Nat) : Int := if g then -(n : Int) else n
def isNeg (z : Int) : Bool := decide (z < 0)
theorem isNeg_ival (g : Bool) (m : Nat) : isNeg (ivalN g m) = (g && decide (0 < m)) := by
 cases g <;> simp [ivalN, isNeg]
theorem abs_ival (g : Bool) (m : Nat) : (ivalN g m).natAbs = m := by
 cases g <;> simp [ivalN]
theorem ival_abs (z : Int) : ivalN (isNeg z) z.natAbs = z := by
 unfold ivalN isNeg
 by_cases h : z < 0 <;> simp [h] <;> omega
theorem ival_false (n : Nat) : ivalN false n = n := rfl
theorem ival_true (n : Nat) : ivalN true n = -(n : Int) := rfl
theorem add_ival (g g2 : Bool) (m k : Nat) : ivalN g m + ivalN g2 k = if g = g2 then ivalN g (m + k) else if g then (k : Int) - m else (m : Int) - k := by
 cases g <;> cases g2 <;> simp [ivalN] <;> omega
theorem mul_ival (g g2 : Bool) (m k : Nat) : ivalN g m * ivalN g2 k = ivalN (g != g2) (m * k) := by
 cases g <;> cases g2 <;> simp [ivalN, Int.neg_mul, Int.mul_neg]
theorem neg_ival (g : Bool) (m : Nat) : -ivalN g m = ivalN (!g) m := by
 cases g <;> simp [ivalN]
theorem eu_of {a b q r : Int} (h : a = b * q + r) (h0 : 0 ≤ r) (h1 : r < b.natAbs) : a / b = q ∧ a % b = r := by
 have hb : b ≠ 0 := by intro e; subst e; simp at h1; omega
 have e1 : a % b = r := by
  rw [h, Int.mul_add_emod_self_left]
  rcases Int.natAbs_eq b with e | e
  ·rw [e]; exact Int.emod_eq_of_lt h0 h1
  ·rw [e, Int.emod_neg]; exact Int.emod_eq_of_lt h0 h1
 refine ⟨?_, e1⟩
 have h2 := Int.mul_ediv_add_emod a b
 rw [e1] at h2
 have h3 : b * (a / b) = b * q := by omega
 exact Int.eq_of_mul_eq_mul_left hb h3
theorem emod_lt_abs' (a : Int) {b : Int} (hb : b ≠ 0) : a % b < b.natAbs := by
 rcases Int.lt_or_gt_of_ne hb with h | h
 ·have := Int.emod_lt_of_pos a (show 0 < -b by omega)
  rw [Int.emod_neg] at this
  omega
 ·have := Int.emod_lt_of_pos a h
  omega
end
end Go.Proofs.YtcjgilagldbjnaaGreatDoor
