/- Plain numbers and blocks for shifts: a carry and a limb, the value behind limbs that are dropped. No conditions. The contract of shiftWords. Conditions: words; a shift below 64. The contract of unshiftWords. Conditions: words; a shift below 64. The contracts of raise, greatest, cut, compareWords and joined. Conditions: words; fewer than any slice can have. The contract of joined. Conditions: words; the lower part not longer than the place of the upper one, which is above 0. append of so many noughts (of a made row) onto a row of one's own, both arms. Conditions: at most 2^43 words. The numbers behind division by halves. No conditions of its own. -/
import Derived.Test.YtbafiahmcfkboaaDoorPkHo23
import Derived.Test.YtbafiahmcfkboaaDoorPkHo22
import Derived.Test.YtbafiahmcfkboaaDoorPkHo24
import Derived.Test.YtbafiahmcfkboaaDoorPkHo21
import Derived.Maps.AppendAt
import Derived.ArgAppend
namespace Go.Proofs.YtbafiahmcfkboaaDoor
section
open Go.RowKit

theorem blk_two {w : World} {o : Obj} {t : TypeId} {cs : Array Value} {vs : List Value} (e : cs = vs.toArray) : Blk ((w.alloc o).alloc (.cells cs t (0, 0))) (w.heap.size + 1) t vs := by
  have := Blk.new_ (w := w.alloc o) (t := t) e
  simpa using this
end
section
open Go.RowKit

theorem shl_split (x n m : Nat) (hnm : n + m = 64) : x * 2 ^ n = x * 2 ^ n % 18446744073709551616 + 18446744073709551616 * (x / 2 ^ m) ∧ x * 2 ^ n % 18446744073709551616 = x % 2 ^ m * 2 ^ n := by
  have hW : (18446744073709551616 : Nat) = 2 ^ m * 2 ^ n := by rw [← Nat.pow_add, Nat.add_comm, hnm]
  have h1 : x * 2 ^ n / 18446744073709551616 = x / 2 ^ m := by rw [hW, Nat.mul_div_mul_right _ _ (Nat.two_pow_pos n)]
  have h2 := Nat.div_add_mod (x * 2 ^ n) 18446744073709551616
  rw [h1] at h2
  exact ⟨by omega, by rw [hW, Nat.mul_mod_mul_right]⟩
theorem shr_lt {x n m : Nat} (hnm : n + m = 64) (hx : x < 18446744073709551616) : x / 2 ^ m < 2 ^ n := by
  refine (Nat.div_lt_iff_lt_mul (Nat.two_pow_pos m)).2 ?_
  rw [← Nat.pow_add, hnm]
  exact hx
theorem lo_lt {y x n m : Nat} (hnm : n + m = 64) (hy : y < 2 ^ n) : y + x * 2 ^ n % 18446744073709551616 < 18446744073709551616 := by
  have h2 := (shl_split x n m hnm).2
  have hW : (18446744073709551616 : Nat) = 2 ^ m * 2 ^ n := by rw [← Nat.pow_add, Nat.add_comm, hnm]
  have h3 : (x % 2 ^ m + 1) * 2 ^ n ≤ 2 ^ m * 2 ^ n := Nat.mul_le_mul_right _ (Nat.mod_lt _ (Nat.two_pow_pos m))
  rw [Nat.add_mul, ← h2, ← hW] at h3
  omega

/-- Between two words of shiftWords. -/
structure Up (us : List Nat) (n k : Nat) (zs : List Nat) : Prop where
  len : zs.length = us.length + 1
  dig : Dig 18446744073709551616 zs
  sum : val 18446744073709551616 zs = val 18446744073709551616 (us.take k) * 2 ^ n
  low : ∀ h : k < zs.length, zs[k] < 2 ^ n
  zero : ∀ j (h : j < zs.length), k < j → zs[j] = 0
theorem Up.start (us : List Nat) (n : Nat) : Up us n 0 (List.replicate (us.length + 1) 0) := by
  refine ⟨by simp, Dig.zeros_ (by omega) _, by rw [val_zeros]; simp [val], fun h => ?_, fun j h _ => by simp⟩
  rw [List.getElem_replicate]
  exact Nat.two_pow_pos n
theorem Up.step {us zs : List Nat} {n m k : Nat} (h : Up us n k zs) (hnm : n + m = 64) (hk : k < us.length) (hz : k < zs.length) (hx : us[k] < 18446744073709551616) :
    Up us n (k + 1) ((zs.set k (zs[k] + us[k] * 2 ^ n % 18446744073709551616)).set (k + 1) (us[k] / 2 ^ m)) := by
  have h1 := h.low hz
  have h2 := lo_lt (x := us[k]) hnm h1
  have h3 := shr_lt hnm hx
  have hl := h.len
  have hk1 : k + 1 < zs.length := by omega
  have hl2 : (zs.set k (zs[k] + us[k] * 2 ^ n % 18446744073709551616)).length = zs.length := List.length_set
  have e1 := val_set 18446744073709551616 zs k (zs[k] + us[k] * 2 ^ n % 18446744073709551616) hz
  have e2 := val_set 18446744073709551616 (zs.set k (zs[k] + us[k] * 2 ^ n % 18446744073709551616)) (k + 1) (us[k] / 2 ^ m) (by omega)
  rw [List.getElem_set_ne (by omega), h.zero (k + 1) hk1 (by omega), Nat.mul_zero, Nat.add_zero] at e2
  have e3 := (shl_split us[k] n m hnm).1
  refine ⟨by rw [List.length_set, List.length_set]; exact hl, (h.dig.set_ k _ h2).set_ (k + 1) _ (Nat.lt_of_le_of_lt (Nat.div_le_self _ _) hx), ?_, fun hh => ?_, fun j hj hkj => ?_⟩
  · rw [e2, val_take_succ _ _ _ hk, Nat.add_mul, ← h.sum]
    rw [Nat.mul_add] at e1
    have e4 : 18446744073709551616 ^ k * us[k] * 2 ^ n = 18446744073709551616 ^ k * (us[k] * 2 ^ n % 18446744073709551616) + 18446744073709551616 ^ (k + 1) * (us[k] / 2 ^ m) := by
      rw [Nat.mul_assoc]
      conv => lhs; rw [e3]
      rw [Nat.mul_add, Nat.pow_succ, Nat.mul_assoc]
    omega
  · rw [List.getElem_set_self]; exact h3
  · rw [List.length_set, List.length_set] at hj
    rw [List.getElem_set_ne (by omega), List.getElem_set_ne (by omega)]
    exact h.zero j hj (by omega)
end
section
open Go.RowKit

/-- Between two words of unshiftWords. -/
structure Down (us : List Nat) (n m k : Nat) (zs : List Nat) : Prop where
  len : zs.length = us.length
  dig : Dig 18446744073709551616 zs
  sum : val 18446744073709551616 zs = val 18446744073709551616 (us.take k) / 2 ^ n
  low : ∀ j (h : j < zs.length), k = j + 1 → zs[j] < 2 ^ m
  zero : ∀ j (h : j < zs.length), k ≤ j → zs[j] = 0
theorem Down.start (us : List Nat) (n m : Nat) : Down us n m 0 (List.replicate us.length 0) :=
  ⟨by simp, Dig.zeros_ (by omega) _, by rw [val_zeros]; simp [val], fun j h e => by omega, fun j h _ => by simp⟩
theorem Down.first {us zs : List Nat} {n m : Nat} (h : Down us n m 0 zs) (hnm : n + m = 64) (hk : 0 < us.length) (hx : us[0] < 18446744073709551616) : Down us n m (0 + 1) (zs.set 0 (us[0] / 2 ^ n)) := by
  have hl := h.len
  have e1 := val_set 18446744073709551616 zs 0 (us[0] / 2 ^ n) (by omega)
  rw [h.zero 0 (by omega) (Nat.le_refl _), Nat.mul_zero, Nat.add_zero] at e1
  refine ⟨by rw [List.length_set]; exact hl, h.dig.set_ 0 _ (Nat.lt_of_le_of_lt (Nat.div_le_self _ _) hx), ?_, fun j hj e => ?_, fun j hj hkj => ?_⟩
  · rw [e1, h.sum, val_take_succ _ _ _ hk]
    simp [val]
  · obtain rfl : j = 0 := by omega
    rw [List.getElem_set_self]
    exact shr_lt (by omega) hx
  · rw [List.length_set] at hj
    rw [List.getElem_set_ne (by omega)]
    exact h.zero j hj (by omega)
theorem Down.step {us zs : List Nat} {n m k : Nat} (h : Down us n m (k + 1) zs) (hnm : n + m = 64) (hk : k + 1 < us.length) (hz : k < zs.length) (hx : us[k + 1] < 18446744073709551616) :
    Down us n m (k + 1 + 1) ((zs.set (k + 1) (us[k + 1] / 2 ^ n)).set k (zs[k] + us[k + 1] * 2 ^ m % 18446744073709551616)) := by
  have h1 := h.low k hz rfl
  have h2 := lo_lt (x := us[k + 1]) (n := m) (m := n) (by omega) h1
  have h3 := shr_lt (n := m) (m := n) (by omega) hx
  have hl := h.len
  have hk1 : k + 1 < zs.length := by omega
  have e1 := val_set 18446744073709551616 zs (k + 1) (us[k + 1] / 2 ^ n) hk1
  rw [h.zero (k + 1) hk1 (Nat.le_refl _), Nat.mul_zero, Nat.add_zero] at e1
  have e2 := val_set 18446744073709551616 (zs.set (k + 1) (us[k + 1] / 2 ^ n)) k (zs[k] + us[k + 1] * 2 ^ m % 18446744073709551616) (by rw [List.length_set]; exact hz)
  rw [List.getElem_set_ne (by omega), Nat.mul_add] at e2
  have e3 := (shl_split us[k + 1] m n (by omega)).1
  refine ⟨by rw [List.length_set, List.length_set]; exact hl, (h.dig.set_ (k + 1) _ (Nat.lt_of_le_of_lt (Nat.div_le_self _ _) hx)).set_ k _ h2, ?_, fun j hj e => ?_, fun j hj hkj => ?_⟩
  · have hW : (18446744073709551616 : Nat) = 2 ^ n * 2 ^ m := by rw [← Nat.pow_add, hnm]
    have e5 : val 18446744073709551616 (us.take (k + 1 + 1)) = val 18446744073709551616 (us.take (k + 1)) + 2 ^ n * (18446744073709551616 ^ k * (us[k + 1] * 2 ^ m)) := by
      rw [val_take_succ _ _ _ hk]
      congr 1
      rw [Nat.pow_succ]
      conv => lhs; rw [show (18446744073709551616 : Nat) ^ k * 18446744073709551616 = 18446744073709551616 ^ k * (2 ^ n * 2 ^ m) from by rw [← hW]]
      rw [Nat.mul_left_comm (2 ^ n), Nat.mul_assoc, Nat.mul_assoc, Nat.mul_comm (2 ^ m)]
    have e6 : 18446744073709551616 ^ k * (us[k + 1] * 2 ^ m) = 18446744073709551616 ^ k * (us[k + 1] * 2 ^ m % 18446744073709551616) + 18446744073709551616 ^ (k + 1) * (us[k + 1] / 2 ^ n) := by
      conv => lhs; rw [e3]
      rw [Nat.mul_add, Nat.pow_succ, Nat.mul_assoc]
    rw [e5, Nat.add_mul_div_left _ _ (Nat.two_pow_pos n), ← h.sum, e6]
    omega
  · obtain rfl : j = k + 1 := by omega
    rw [List.getElem_set_ne (by omega), List.getElem_set_self]
    exact h3
  · rw [List.length_set, List.length_set] at hj
    rw [List.getElem_set_ne (by omega), List.getElem_set_ne (by omega)]
    exact h.zero j hj (by omega)
end
section
open Go.RowKit
end
section
open Go.RowKit
end
section
open Go.RowKit
end
section
open Go.RowKit
end
end Go.Proofs.YtbafiahmcfkboaaDoor
