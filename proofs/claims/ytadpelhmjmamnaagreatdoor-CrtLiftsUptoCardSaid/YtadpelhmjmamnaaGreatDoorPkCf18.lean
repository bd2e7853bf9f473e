/- The contracts of the field modulo 2^64 - 2^32 + 1: reduced, fieldAdd, fieldSub, fieldMul, fieldPow. Conditions: the arguments are words. The contracts of fieldPow and rootsOf. Conditions: the arguments are below the field's prime; sizes are even. The contract of digitsOf. Conditions: the places suffice. The contracts of sumOf and longProduct. Conditions: fewer words than any slice can have. -/
import Derived.Test.YtadpelhmjmamnaaGreatDoorPkCf17
import Derived.Laws.CopyOwn
namespace Go.Proofs.YtadpelhmjmamnaaGreatDoor
section
open Go.RowKit

def redN (a : Nat) : Nat := if 18446744069414584321 ≤ a then a - 18446744069414584321 else a

set_option maxHeartbeats 400000 in
theorem reduced_any (a : Nat) (ha : a < 18446744073709551616) (w : World) : Calls Tryz.prog 184 #[.int .u64 (a : Int)] w fun e w' => e = .returned (.int .u64 (redN a : Int)) ∧ w = w' := by
  by_cases h : 18446744069414584321 ≤ a
  · have t1 : decide ((18446744069414584321 : Int) ≤ (a : Int)) = true := by simp; omega
    obtain ⟨s, hs⟩ : ∃ s, s = a - 18446744069414584321 := ⟨_, rfl⟩
    have e1 : (a : Int) - 18446744069414584321 = (s : Int) := by omega
    have hr : redN a = s := by unfold redN; rw [if_pos h, hs]
    rw [hr]
    have hb : s < 18446744073709551616 := by omega
    clear hs hr
    go_enter Tryz.func184, Tryz.ntmps184
    go_wp2
    go_ret
    exact ⟨rfl, rfl⟩
  · have t1 : decide ((18446744069414584321 : Int) ≤ (a : Int)) = false := by simp; omega
    have hr : redN a = a := by unfold redN; rw [if_neg h]
    rw [hr]
    clear hr
    go_enter Tryz.func184, Tryz.ntmps184
    go_wp2
    go_ret
    exact ⟨rfl, rfl⟩

set_option maxHeartbeats 400000 in
theorem fieldAdd_any (a b : Nat) (ha : a < 18446744069414584321) (hb : b < 18446744069414584321) (w : World) : Calls Tryz.prog 182 #[.int .u64 (a : Int), .int .u64 (b : Int)] w fun e w' => e = .returned (.int .u64 (((a + b) % 18446744069414584321 : Nat) : Int)) ∧ w = w' := by
  have a1 := fun W => add64_run0 a b W
  obtain ⟨l, hl⟩ : ∃ l, l = (a + b) % 18446744073709551616 := ⟨_, rfl⟩
  obtain ⟨o, ho⟩ : ∃ o, o = (a + b) / 18446744073709551616 := ⟨_, rfl⟩
  rw [← hl, ← ho] at a1
  obtain ⟨s, hs⟩ : ∃ s, s = l + o * 4294967295 := ⟨_, rfl⟩
  have e1 : (l : Int) + (o : Int) * 4294967295 = (s : Int) := by omega
  have ho1 : o ≤ 1 := by omega
  have hsb : s < 18446744073709551616 := by omega
  have hr : redN s = (a + b) % 18446744069414584321 := by unfold redN; split <;> omega
  rw [← hr]
  have hrd := fun W => reduced_any s hsb W
  obtain ⟨r, hr2⟩ : ∃ r, r = redN s := ⟨_, rfl⟩
  rw [← hr2] at hrd ⊢
  have Hrd := Lib.hid hrd
  clear hl ho hs hr hr2 hrd
  go_enter Tryz.func182, Tryz.ntmps182
  go_wp2_with (first
    | (simp only [])
    | (go_at_call 184; (with_reducible refine (Hrd.out _).mono ?_); rintro e w' ⟨rfl, rfl⟩))
  go_ret
  exact ⟨rfl, rfl⟩

set_option maxHeartbeats 400000 in
theorem fieldSub_any (a b : Nat) (ha : a < 18446744069414584321) (hb : b < 18446744069414584321) (w : World) : Calls Tryz.prog 183 #[.int .u64 (a : Int), .int .u64 (b : Int)] w fun e w' => e = .returned (.int .u64 (((a + 18446744069414584321 - b) % 18446744069414584321 : Nat) : Int)) ∧ w = w' := by
  have a1 := fun W => sub64_run0 a b W
  obtain ⟨l, hl⟩ := nameIt ((a + 18446744073709551616 - b) % 18446744073709551616)
  obtain ⟨o, ho⟩ : ∃ o, o = if a < b then 1 else 0 := ⟨_, rfl⟩
  rw [← hl, ← ho] at a1
  have ho1 : o ≤ 1 := by rw [ho]; split <;> omega
  obtain ⟨s, hs⟩ := nameIt ((a + 18446744069414584321 - b) % 18446744069414584321)
  have e1 : (l : Int) - (o : Int) * 4294967295 = (s : Int) := by
    rw [hl, ho, hs]; split <;> omega
  rw [← hs]
  have hsb : s < 18446744073709551616 := by omega
  clear hl ho hs
  go_enter Tryz.func183, Tryz.ntmps183
  go_wp2_with (simp only [a1])
  go_ret
  exact ⟨rfl, rfl⟩

theorem field_mul_eq (x hi lo l1 o1 r m q l2 o2 : Nat) (hx : x = hi * 18446744073709551616 + lo) (hh : hi ≤ 18446744073709551614) (hlo : lo < 18446744073709551616)
    (h1 : l1 = (lo + 18446744073709551616 - hi / 4294967296) % 18446744073709551616) (h2 : o1 = if lo < hi / 4294967296 then 1 else 0) (hr : r + o1 * 4294967295 = l1) (hm : m = hi % 4294967296) (hq : q = m * 4294967295) (h3 : l2 = (r + q) % 18446744073709551616) (h4 : o2 = (r + q) / 18446744073709551616) :
    redN (l2 + o2 * 4294967295) = x % 18446744069414584321 := by
  have e : l2 + o2 * 4294967295 + 18446744069414584321 * (o2 + hi / 4294967296 * 4294967297 + m - (if lo < hi / 4294967296 then 0 else 0)) + 18446744069414584321 * 0 = x + 18446744069414584321 * (if lo < hi / 4294967296 then 1 else 0) := by
    rw [hx]
    split at h2 <;> split <;> omega
  unfold redN
  split at e <;> split <;> omega

set_option maxHeartbeats 800000 in
theorem fieldMul_any (a b : Nat) (ha : a < 18446744073709551616) (hb : b < 18446744073709551616) (w : World) : Calls Tryz.prog 164 #[.int .u64 (a : Int), .int .u64 (b : Int)] w fun e w' => e = .returned (.int .u64 ((a * b % 18446744069414584321 : Nat) : Int)) ∧ w = w' := by
  have hpb : a * b ≤ 18446744073709551615 * 18446744073709551615 := Nat.mul_le_mul (by omega) (by omega)
  have hmul := fun W => mul64_any a b W ha hb
  obtain ⟨hi, hhi⟩ : ∃ hi, hi = a * b / 18446744073709551616 := ⟨_, rfl⟩
  obtain ⟨lo, hlo⟩ : ∃ lo, lo = a * b % 18446744073709551616 := ⟨_, rfl⟩
  have e0 : a * b = hi * 18446744073709551616 + lo := by rw [hhi, hlo]; omega
  have hib : hi ≤ 18446744073709551614 := by omega
  have hlb : lo < 18446744073709551616 := by rw [hlo]; omega
  rw [← hhi, ← hlo] at hmul
  obtain ⟨t, ht⟩ : ∃ t, t = hi / 4294967296 := ⟨_, rfl⟩
  have s1 := fun W => sub64_run0 lo t W
  obtain ⟨l1, hl1⟩ := nameIt ((lo + 18446744073709551616 - t) % 18446744073709551616)
  obtain ⟨o1, ho1⟩ : ∃ o1, o1 = if lo < t then 1 else 0 := ⟨_, rfl⟩
  rw [← hl1, ← ho1] at s1
  have ho1b : o1 ≤ 1 := by rw [ho1]; split <;> omega
  obtain ⟨r, hr⟩ : ∃ r, r = l1 - o1 * 4294967295 := ⟨_, rfl⟩
  have hr2 : r + o1 * 4294967295 = l1 := by
    rw [hr]
    have : o1 * 4294967295 ≤ l1 := by
      by_cases h : lo < t
      · rw [if_pos h] at ho1; omega
      · rw [if_neg h] at ho1; omega
    omega
  have e1 : (l1 : Int) - (o1 : Int) * 4294967295 = (r : Int) := by omega
  obtain ⟨m, hm⟩ : ∃ m, m = hi % 4294967296 := ⟨_, rfl⟩
  have hmb : m < 4294967296 := by omega
  obtain ⟨q, hq⟩ : ∃ q, q = m * 4294967295 := ⟨_, rfl⟩
  have e2 : (m : Int) * 4294967296 - (m : Int) = (q : Int) := by omega
  have hqb : q < 18446744073709551616 := by omega
  have hrb : r < 18446744073709551616 := by omega
  have a1 := fun W => add64_run0 r q W
  obtain ⟨l2, hl2⟩ : ∃ l2, l2 = (r + q) % 18446744073709551616 := ⟨_, rfl⟩
  obtain ⟨o2, ho2⟩ : ∃ o2, o2 = (r + q) / 18446744073709551616 := ⟨_, rfl⟩
  rw [← hl2, ← ho2] at a1
  have ho2b : o2 ≤ 1 := by omega
  obtain ⟨s, hs⟩ : ∃ s, s = l2 + o2 * 4294967295 := ⟨_, rfl⟩
  have e3 : (l2 : Int) + (o2 : Int) * 4294967295 = (s : Int) := by omega
  have hsb : s < 18446744073709551616 := by omega
  have hfin : redN s = a * b % 18446744069414584321 := by
    rw [hs]
    exact field_mul_eq (a * b) hi lo l1 o1 r m q l2 o2 e0 hib hlb (by rw [hl1, ht]) (by rw [ho1, ht]) hr2 hm hq hl2 ho2
  rw [← hfin]
  have hrd := fun W => reduced_any s hsb W
  obtain ⟨z, hz⟩ : ∃ z, z = redN s := ⟨_, rfl⟩
  rw [← hz] at hrd ⊢
  have Hrd := Lib.hid hrd
  have Hmul := Lib.hid hmul
  have e4 : (hi : Int) / 4294967296 = (t : Int) := by omega
  have e5 : bits BinOp.and IntKind.u64 (hi : Int) 4294967295 = (m : Int) := by
    have h := u64_and_nat hi 4294967295 (by omega) (by omega)
    have h2 : hi &&& 4294967295 = hi % 4294967296 := Nat.and_two_pow_sub_one_eq_mod hi 32
    rw [h2, ← hm] at h
    exact h
  have e6 : (hi : Int) % 4294967296 = (m : Int) := by omega
  clear hfin hz hrd hmul hs hl2 ho2 hq hm hr hr2 hl1 ho1 ht hhi hlo e0 hpb
  go_enter Tryz.func164, Tryz.ntmps164
  go_wp2_with (first
    | (go_at_call 114; (with_reducible refine (Hmul.out _).mono ?_); rintro e w' ⟨rfl, rfl⟩)
    | (simp only [])
    | (simp only [a1])
    | (go_at_call 184; (with_reducible refine (Hrd.out _).mono ?_); rintro e w' ⟨rfl, rfl⟩))
  go_ret
  exact ⟨rfl, rfl⟩
end
section
open Go.RowKit

theorem pstep_odd (p o x j : Nat) : (o * x % p) * (x * x % p) ^ j % p = o * x ^ (2 * j + 1) % p := by
  rw [Nat.mul_mod, Nat.mod_mod, ← Nat.pow_mod, ← Nat.mul_mod, ← Nat.pow_two, ← Nat.pow_mul, Nat.pow_succ]
  congr 1
  rw [Nat.mul_assoc, Nat.mul_comm x]
theorem pstep_even (p o x j : Nat) : o * (x * x % p) ^ j % p = o * x ^ (2 * j) % p := by
  rw [Nat.mul_mod, ← Nat.pow_mod, ← Nat.mul_mod, ← Nat.pow_two, ← Nat.pow_mul]

set_option maxHeartbeats 800000 in
theorem fieldPow_any (a k : Nat) (ha : a < 18446744069414584321) (hk : k < 18446744073709551616) (w : World) : Calls Tryz.prog 161 #[.int .u64 (a : Int), .int .u64 (k : Int)] w fun e w' => ∃ r : Nat, e = .returned (.int .u64 (r : Int)) ∧ r = a ^ k % 18446744069414584321 ∧ w = w' := by
  go_enter Tryz.func161, Tryz.ntmps161
  go_wp2_with fail
  go_loop [0, 1, 5] (fun xv ev ov => ∃ x e o : Nat, x < 18446744069414584321 ∧ e < 18446744073709551616 ∧ o < 18446744069414584321 ∧ xv = .int .u64 x ∧ ev = .int .u64 e ∧ ov = .int .u64 o ∧ Hid (o * x ^ e % 18446744069414584321 = a ^ k % 18446744069414584321)) (fun _ ev _ => (intOf ev).toNat)
  case atStart => exact ⟨a, k, 1, ha, hk, by omega, rfl, rfl, rfl, Lib.hid (by rw [Nat.one_mul])⟩
  case round =>
    obtain ⟨x, e, o, hx, he, ho, rfl, rfl, rfl, H⟩ := hrel
    rcases Nat.eq_zero_or_pos e with h0 | h0
    · obtain rfl := h0
      go_wp2_with fail
      go_ret
      have := H.out
      rw [Nat.pow_zero, Nat.mul_one, Nat.mod_eq_of_lt ho] at this
      exact ⟨o, rfl, this, rfl⟩
    · rcases Nat.mod_two_eq_zero_or_one e with h2 | h2
      · obtain ⟨j, rfl⟩ : ∃ j, e = 2 * j := ⟨e / 2, by omega⟩
        have t1 : ((2 * (j : Int)) % 2 == 1) = false := by simp
        have t2 : (2 * (j : Int)) / 2 = (j : Int) := by omega
        have hj : 0 < j := by omega
        clear h2
        go_wp2_with (go_at_call 164; (with_reducible refine (fieldMul_any x x (by omega) (by omega) _).mono ?_); rintro e w' ⟨rfl, rfl⟩)
        go_round
        case rel => exact ⟨x * x % 18446744069414584321, j, o, Nat.mod_lt _ (by omega), by omega, ho, rfl, by go_num, rfl, Lib.hid (by rw [pstep_even]; exact H.out)⟩
        case measure => simp [intOf]; omega
      · obtain ⟨j, rfl⟩ : ∃ j, e = 2 * j + 1 := ⟨e / 2, by omega⟩
        have t1 : ((2 * (j : Int) + 1) % 2 == 1) = true := by rw [beq_iff_eq]; omega
        have t2 : (2 * (j : Int) + 1) / 2 = (j : Int) := by omega
        clear h2
        go_wp2_with (first
          | (go_at_call 164; (with_reducible refine (fieldMul_any o x (by omega) (by omega) _).mono ?_); rintro e w' ⟨rfl, rfl⟩)
          | (go_at_call 164; (with_reducible refine (fieldMul_any x x (by omega) (by omega) _).mono ?_); rintro e w' ⟨rfl, rfl⟩))
        go_round
        case rel => exact ⟨x * x % 18446744069414584321, j, o * x % 18446744069414584321, Nat.mod_lt _ (by omega), by omega, Nat.mod_lt _ (by omega), rfl, by go_num, rfl, Lib.hid (by rw [pstep_odd]; exact H.out)⟩
        case measure => simp [intOf]; omega

theorem pow_next (p x i : Nat) : x ^ i % p * x % p = x ^ (i + 1) % p := by
  rw [Nat.pow_succ, Nat.mul_mod, Nat.mod_mod, ← Nat.mul_mod]

set_option maxHeartbeats 1600000 in
theorem rootsOf_any (n h r : Nat) (hn : n = 2 * h) (h1 : 1 ≤ h) (hr : r < 18446744069414584321) (hm : h ≤ 35184372088832) (w : World) : Calls Tryz.prog 160 #[.int .i64 (n : Int), .int .u64 (r : Int)] w fun e w' => ∃ zs g, e = .returned (.slice (some ⟨g, 0, none⟩) zs.length zs.length) ∧ zs.length = h ∧ (∀ v ∈ zs, v < 18446744069414584321) ∧ (∀ i (hi : i < zs.length), zs[i] = r ^ i % 18446744069414584321) ∧ w.heap.size ≤ g ∧ Blk w' g 84 (u64s zs) ∧ Below w.heap.size w w' := by
  have q1 : (n : Int) / 2 = (h : Int) := by omega
  have q2 : max (h : Int) 1 = (h : Int) := by omega
  have hmk := fun W => mk64 h hm W
  have hnb : n ≤ 9223372036854775807 := by omega
  have hh0 : 0 < h := by omega
  clear hn
  have hc0 : ∀ W : World, Blk W w.heap.size 84 (u64s (List.replicate h 0)) → W.cell? ⟨w.heap.size, 0, none⟩ = some (.int .u64 0) ∧ W.frozen? ⟨w.heap.size, 0, none⟩ = false := fun W hW => ⟨by rw [hW.cell, u64s_at (by simpa using hh0)]; simp, hW.frozen 0⟩
  have hb0 : Blk (w.alloc (.cells (Array.replicate h (Value.int .u64 0)) 84)) w.heap.size 84 (u64s (List.replicate h 0)) := Blk.new_ (by simp [u64s])
  obtain ⟨c1, c2⟩ := hc0 _ hb0
  clear hc0
  go_enter Tryz.func160, Tryz.ntmps160
  go_wp2_with fail
  go_loopw [6] (fun i wr => ∃ (k : Nat) (zs : List Nat), 1 ≤ k ∧ k ≤ h ∧ i = .int .i64 k ∧ zs.length = h ∧ (∀ v ∈ zs, v < 18446744069414584321) ∧ Blk wr w.heap.size 84 (u64s zs) ∧ (∀ i (hi : i < zs.length), i < k → zs[i] = r ^ i % 18446744069414584321) ∧ Below w.heap.size w wr) (fun i _ => h - (intOf i).toNat)
  case atStart =>
    refine ⟨1, (List.replicate h 0).set 0 1, by omega, h1, rfl, by simp, ?_, ?_, ?_, (Below.refl _ _).alloc (Nat.le_refl _) _⟩
    · intro v hv
      rcases List.mem_or_eq_of_mem_set hv with hv | rfl
      · rw [(List.mem_replicate.1 hv).2]; omega
      · omega
    · refine Blk.new_ ?_
      apply Array.ext'
      simp [u64s, List.map_set]
    · intro i hi hi1
      obtain rfl : i = 0 := by omega
      simp
  case round =>
    clear hb0 c1 c2
    obtain ⟨k, zs, hk1, hk, rfl, hzl, hzp, hblk, hz, hbel⟩ := hrel
    by_cases hlt : k < h
    · obtain ⟨j, rfl⟩ : ∃ j, k = j + 1 := ⟨k - 1, by omega⟩
      have hj : j < zs.length := by omega
      have hj1 : j + 1 < zs.length := by omega
      have hc := (hblk.cell j).trans (u64s_at hj)
      have hc2 := (hblk.cell (j + 1)).trans (u64s_at hj1)
      have hf := hblk.frozen (j + 1)
      have hzj := hz j hj (by omega)
      have hzb := hzp _ (List.getElem_mem hj)
      have t1 : ((j : Int) + 1) - 1 = (j : Int) := by omega
      have Hz := Lib.hid hz
      have Hzj := Lib.hid hzj
      have Hzp := Lib.hid hzp
      have Hzl := Lib.hid hzl
      have hjh : j + 1 < h := hlt
      clear hz hzj hzp hzl
      go_wp2_with (go_at_call 164; (with_reducible refine (fieldMul_any zs[j] r (by omega) (by omega) _).mono ?_); rintro e w' ⟨rfl, rfl⟩)
      go_roundw
      case rel =>
        refine ⟨j + 1 + 1, zs.set (j + 1) (zs[j] * r % 18446744069414584321), by omega, by omega, by go_num, by rw [List.length_set]; exact Hzl.out, ?_, ?_, ?_, hbel.setCell (p := ⟨w.heap.size, j + 1, none⟩) (Nat.le_refl _) _⟩
        · intro v hv
          rcases List.mem_or_eq_of_mem_set hv with hv | rfl
          · exact Hzp.out v hv
          · exact Nat.mod_lt _ (by omega)
        · have := hblk.set_ (j + 1) (.int .u64 ((zs[j] * r % 18446744069414584321 : Nat) : Int))
          rw [u64s_set] at this
          exact this
        · intro i hi hik
          rw [List.getElem_set]
          split
          · rename_i hji
            subst hji
            rw [Hzj.out, pow_next]
          · exact Hz.out i (by simpa using hi) (by omega)
      case measure => simp [intOf]; omega
    · have hkh : k = h := by omega
      have Hz := Lib.hid hz
      have Hzl := Lib.hid hzl
      have Hkh := Lib.hid hkh
      have t2 : h ≤ k := by omega
      clear hz hzl hkh
      go_wp2_with fail
      go_ret
      exact ⟨zs, _, by rw [Hzl.out]; rfl, Hzl.out, hzp, fun i hi => Hz.out i hi (by rw [Hkh.out, ← Hzl.out]; exact hi), Nat.le_refl _, hblk, hbel⟩
end
section
open Go.RowKit

def dig4 (x : Nat) : List Nat := [x % 65536, x / 65536 % 65536, x / 4294967296 % 65536, x / 281474976710656 % 65536]
def digs : List Nat → List Nat
  | [] => []
  | x :: xs => dig4 x ++ digs xs
theorem digs_length (xs : List Nat) : (digs xs).length = 4 * xs.length := by
  induction xs with
  | nil => rfl
  | cons x xs ih => simp only [digs, List.length_append, ih, List.length_cons]; simp [dig4]; omega
theorem digs_le (xs : List Nat) : ∀ v ∈ digs xs, v ≤ 65535 := by
  induction xs with
  | nil => intro v hv; cases hv
  | cons x xs ih =>
    intro v hv
    rcases List.mem_append.1 hv with hv | hv
    · simp only [dig4, List.mem_cons, List.not_mem_nil, or_false] at hv
      omega
    · exact ih v hv
theorem digs_val (xs : List Nat) (h : Dig 18446744073709551616 xs) : val 65536 (digs xs) = val 18446744073709551616 xs := by
  induction xs with
  | nil => rfl
  | cons x xs ih =>
    have hx := h.head_
    simp only [digs, val_append, ih h.tail_, val]
    simp only [dig4, val, List.length_cons, List.length_nil]
    rw [show (65536 : Nat) ^ (0 + 1 + 1 + 1 + 1) = 18446744073709551616 from rfl]
    omega
theorem digs_append (xs ys : List Nat) : digs (xs ++ ys) = digs xs ++ digs ys := by
  induction xs with
  | nil => rfl
  | cons x xs ih => simp only [List.cons_append, digs, ih, List.append_assoc]
theorem set_end (A : List Nat) (m v : Nat) : (A ++ List.replicate (m + 1) 0).set A.length v = (A ++ [v]) ++ List.replicate m 0 := by
  rw [List.set_append_right _ _ (Nat.le_refl _), Nat.sub_self, List.replicate_succ, List.append_assoc]; rfl

/-- digitsOf's row behind k words and j digits more of x. -/
def DigRow (us : List Nat) (n k j x : Nat) : List Nat := digs (us.take k) ++ (dig4 x).take j ++ List.replicate (n - 4 * k - j) 0
theorem DigRow.length {us : List Nat} {n k j x : Nat} (hk : k ≤ us.length) (hj : j ≤ 4) (hn : 4 * k + j ≤ n) : (DigRow us n k j x).length = n := by
  unfold DigRow
  rw [List.length_append, List.length_append, digs_length, List.length_take, List.length_take, List.length_replicate]
  simp [dig4]; omega
theorem DigRow.step {us : List Nat} {n k j x d : Nat} (hk : k ≤ us.length) (hj : j < 4) (hn : 4 * k + j < n) (hd : (dig4 x)[j]? = some d) : (DigRow us n k j x).set (4 * k + j) d = DigRow us n k (j + 1) x := by
  unfold DigRow
  have hl : (digs (us.take k) ++ (dig4 x).take j).length = 4 * k + j := by
    rw [List.length_append, digs_length, List.length_take, List.length_take]
    simp [dig4]; omega
  have e1 : n - 4 * k - j = (n - 4 * k - (j + 1)) + 1 := by omega
  rw [e1, ← hl, set_end]
  congr 1
  rw [List.append_assoc]
  congr 1
  have hj4 : j < (dig4 x).length := hj
  rw [List.getElem?_eq_getElem hj4] at hd
  rw [← Option.some.inj hd]
  exact (List.take_succ_eq_append_getElem hj4).symm
theorem DigRow.next {us : List Nat} {n k : Nat} (hk : k < us.length) (hn : 4 * k + 4 ≤ n) : DigRow us n k 4 us[k] = DigRow us n (k + 1) 0 0 := by
  unfold DigRow
  rw [List.take_succ_eq_append_getElem hk, digs_append]
  simp only [digs, List.append_nil, List.take_zero]
  rw [show n - 4 * k - 4 = n - 4 * (k + 1) - 0 from by omega]
  rfl
theorem DigRow.start (us : List Nat) (n : Nat) : DigRow us n 0 0 0 = List.replicate n 0 := by simp [DigRow, digs]
theorem DigRow.finish (us : List Nat) (n : Nat) : DigRow us n us.length 0 0 = digs us ++ List.replicate (n - 4 * us.length) 0 := by simp [DigRow]
theorem DigRow.zero (us : List Nat) (n k x : Nat) : DigRow us n k 0 x = DigRow us n k 0 0 := by simp [DigRow]
theorem and_mask (y : Nat) (h : y < 18446744073709551616) : bits BinOp.and IntKind.u64 (y : Int) 65535 = ((y % 65536 : Nat) : Int) := by
  have h1 := u64_and_nat y 65535 h (by omega)
  have h2 : y &&& 65535 = y % 65536 := Nat.and_two_pow_sub_one_eq_mod y 16
  rw [h2] at h1
  exact h1

set_option maxHeartbeats 1600000 in
theorem digitsOf_any (A : Option Addr) (c : Nat) (us : List Nat) (n : Nat) (w : World) (B : Nat) (hr : Rd w B A (u64s us)) (hB : B ≤ w.heap.size) (hd : Dig 18446744073709551616 us) (hn : 4 * us.length ≤ n) (hm : n ≤ 35184372088832) :
    Calls Tryz.prog 162 #[.slice A us.length c, .int .i64 (n : Int)] w fun e w' => ∃ g, e = .returned (.slice (some ⟨g, 0, none⟩) n n) ∧ w.heap.size ≤ g ∧ Blk w' g 84 (u64s (digs us ++ List.replicate (n - 4 * us.length) 0)) ∧ Below w.heap.size w w' := by
  have hmk := fun W => mk64 n hm W
  go_enter Tryz.func162, Tryz.ntmps162
  go_wp2_with fail
  go_loopw [6, 7, 8, 13] (fun _ _ _ i wr => ∃ k : Nat, k ≤ us.length ∧ i = .int .i64 k ∧ Blk wr w.heap.size 84 (u64s (DigRow us n k 0 0)) ∧ Below w.heap.size w wr) (fun _ _ _ i _ => us.length - (intOf i).toNat)
  case atStart => exact ⟨0, by omega, rfl, by rw [DigRow.start]; exact Blk.new_ (by simp [u64s]), (Below.refl _ _).alloc (Nat.le_refl _) _⟩
  case round =>
    obtain ⟨k, hk, rfl, hblk, hbel⟩ := hrel
    by_cases hlt : k < us.length
    · obtain ⟨b, off, rfl, hb, hx⟩ := hr.at64 hlt
      have hx := (hbel.cell (p := ⟨b, off + k, none⟩) (show b < _ by omega)).trans hx
      have hxd := hd.at_ k hlt
      have hkn : 4 * k + 4 ≤ n := by omega
      go_wp2_with fail
      go_loopw [8, 18] (fun _ i wr => ∃ j : Nat, j ≤ 4 ∧ i = .int .i64 j ∧ Blk wr w.heap.size 84 (u64s (DigRow us n k j us[k])) ∧ Below w.heap.size w wr) (fun _ i _ => 4 - (intOf i).toNat)
      case atStart => exact ⟨0, by omega, rfl, by rw [DigRow.zero]; exact hblk, hbel⟩
      case round =>
        clear hblk hbel
        obtain ⟨j, hj, rfl, hblk, hbel⟩ := hrel
        by_cases hj4 : j < 4
        · have hlen := DigRow.length (us := us) (n := n) (k := k) (j := j) (x := us[k]) hk hj (by omega)
          have hidx : 4 * k + j < (DigRow us n k j us[k]).length := by rw [hlen]; omega
          obtain ⟨vv, hc⟩ : ∃ vv, wr.cell? ⟨w.heap.size, 4 * k + j, none⟩ = some vv := ⟨_, (hblk.cell (4 * k + j)).trans (u64s_at hidx)⟩
          have hf := hblk.frozen (4 * k + j)
          have hset := fun d => hblk.set_ (4 * k + j) (.int .u64 ((d : Nat) : Int))
          have Hset := Lib.hid hset
          have hkn' : 4 * (k : Int) + 3 < (n : Int) := by omega
          have i0 : 4 * k + j < n := by omega
          have i1 : 4 * k < n := by omega
          clear hlen hidx hset
          rcases (by omega : j = 0 ∨ j = 1 ∨ j = 2 ∨ j = 3) with rfl | rfl | rfl | rfl
          · have hc0 : wr.cell? ⟨w.heap.size, 4 * k, none⟩ = some vv := hc
            have hf0 : wr.frozen? ⟨w.heap.size, 4 * k, none⟩ = false := hf
            clear hc hf
            have a1 := and_mask us[k] hxd
            obtain ⟨d, hdd⟩ : ∃ d, d = us[k] % 65536 := ⟨_, rfl⟩
            rw [← hdd] at a1
            have a2 : (us[k] : Int) % 65536 = (d : Int) := by omega
            have hst := DigRow.step (us := us) (n := n) (k := k) (j := 0) (x := us[k]) (d := d) hk (by omega) i0 (by rw [hdd]; rfl)
            have Hst := Lib.hid hst
            clear hdd hst
            go_wp2_with fail
            go_roundw
            case rel => exact ⟨1, by omega, rfl, by have := Hset.out d; rw [u64s_set, Hst.out] at this; first | exact this | (rw [a1]; exact this), hbel.setCell (p := ⟨w.heap.size, 4 * k + 0, none⟩) (Nat.le_refl _) _⟩
            case measure => simp [intOf]
          · obtain ⟨y, hy⟩ : ∃ y, y = us[k] / 65536 := ⟨_, rfl⟩
            have b1 : (us[k] : Int) / 65536 = (y : Int) := by omega
            have a1 := and_mask y (by omega)
            obtain ⟨d, hdd⟩ : ∃ d, d = y % 65536 := ⟨_, rfl⟩
            rw [← hdd] at a1
            have a2 : (y : Int) % 65536 = (d : Int) := by omega
            have e9 : bits BinOp.and IntKind.u64 ((us[k] : Int) / 65536) 65535 = (d : Int) := by rw [b1]; exact a1
            have hyb : y < 18446744073709551616 := by omega
            have hst := DigRow.step (us := us) (n := n) (k := k) (j := 1) (x := us[k]) (d := d) hk (by omega) i0 (by rw [hdd, hy]; rfl)
            have Hst := Lib.hid hst
            clear hdd hst hy
            go_wp2_with fail
            go_roundw
            case rel => exact ⟨2, by omega, rfl, by have := Hset.out d; rw [u64s_set, Hst.out] at this; first | exact this | (rw [e9]; exact this), hbel.setCell (p := ⟨w.heap.size, 4 * k + 1, none⟩) (Nat.le_refl _) _⟩
            case measure => simp [intOf]
          · obtain ⟨y, hy⟩ : ∃ y, y = us[k] / 4294967296 := ⟨_, rfl⟩
            have b1 : (us[k] : Int) / 4294967296 = (y : Int) := by omega
            have a1 := and_mask y (by omega)
            obtain ⟨d, hdd⟩ : ∃ d, d = y % 65536 := ⟨_, rfl⟩
            rw [← hdd] at a1
            have a2 : (y : Int) % 65536 = (d : Int) := by omega
            have e9 : bits BinOp.and IntKind.u64 ((us[k] : Int) / 4294967296) 65535 = (d : Int) := by rw [b1]; exact a1
            have hyb : y < 18446744073709551616 := by omega
            have hst := DigRow.step (us := us) (n := n) (k := k) (j := 2) (x := us[k]) (d := d) hk (by omega) i0 (by rw [hdd, hy]; rfl)
            have Hst := Lib.hid hst
            clear hdd hst hy
            go_wp2_with fail
            go_roundw
            case rel => exact ⟨3, by omega, rfl, by have := Hset.out d; rw [u64s_set, Hst.out] at this; first | exact this | (rw [e9]; exact this), hbel.setCell (p := ⟨w.heap.size, 4 * k + 2, none⟩) (Nat.le_refl _) _⟩
            case measure => simp [intOf]
          · obtain ⟨y, hy⟩ : ∃ y, y = us[k] / 281474976710656 := ⟨_, rfl⟩
            have b1 : (us[k] : Int) / 281474976710656 = (y : Int) := by omega
            have a1 := and_mask y (by omega)
            obtain ⟨d, hdd⟩ : ∃ d, d = y % 65536 := ⟨_, rfl⟩
            rw [← hdd] at a1
            have a2 : (y : Int) % 65536 = (d : Int) := by omega
            have e9 : bits BinOp.and IntKind.u64 ((us[k] : Int) / 281474976710656) 65535 = (d : Int) := by rw [b1]; exact a1
            have hyb : y < 18446744073709551616 := by omega
            have hst := DigRow.step (us := us) (n := n) (k := k) (j := 3) (x := us[k]) (d := d) hk (by omega) i0 (by rw [hdd, hy]; rfl)
            have Hst := Lib.hid hst
            clear hdd hst hy
            go_wp2_with fail
            go_roundw
            case rel => exact ⟨4, by omega, rfl, by have := Hset.out d; rw [u64s_set, Hst.out] at this; first | exact this | (rw [e9]; exact this), hbel.setCell (p := ⟨w.heap.size, 4 * k + 3, none⟩) (Nat.le_refl _) _⟩
            case measure => simp [intOf]
        · obtain rfl : j = 4 := by omega
          rw [DigRow.next hlt hkn] at hblk
          go_wp2_with fail
          go_roundw
          case rel => exact ⟨k + 1, by omega, by go_num, hblk, hbel⟩
          case measure => simp [intOf]; omega
    · obtain rfl : k = us.length := by omega
      rw [DigRow.finish] at hblk
      go_wp2_with fail
      go_ret
      exact ⟨_, rfl, Nat.le_refl _, hblk, hbel⟩
end
section
open Go.RowKit

theorem sum_lt {b n x y : Nat} (hb : 2 ≤ b) (hx : x < b ^ n) (hy : y < b ^ n) : x + y < b ^ (n + 1) := by
  rw [Nat.pow_succ]
  have : b ^ n * 2 ≤ b ^ n * b := Nat.mul_le_mul_left _ hb
  omega
theorem val_lt_le {b : Nat} {xs : List Nat} {n : Nat} (h : Dig b xs) (hl : xs.length ≤ n) (hb : 0 < b) : val b xs < b ^ n :=
  Nat.lt_of_lt_of_le (val_lt b xs h) (Nat.pow_le_pow_right hb hl)
theorem carry_zero {b n v q X : Nat} (h : v + b ^ n * q = X) (hX : X < b ^ n) : q = 0 := by
  rcases Nat.eq_zero_or_pos q with h0 | h0
  · exact h0
  · have : b ^ n * 1 ≤ b ^ n * q := Nat.mul_le_mul_left _ h0
    omega
theorem carry_zero2 {b n v q X : Nat} (h : v + b ^ n * q = X) (hX : X < b ^ n) : v = X := by
  rw [carry_zero h hX] at h; simpa using h
theorem u64s_splice (L zs : List Nat) (o : Nat) : splice (u64s L) o (u64s zs) = u64s (patch L o zs) := by
  simp [splice, patch, u64s, List.map_take, List.map_drop]
theorem mk64s (n : Nat) (h : n + 1 ≤ 35184372088832) (W : World) : (Instr.makeSlice 146 (.int .i64 ((n : Int) + 1)) (.int .i64 ((n : Int) + 1))).run Tryz.prog W = .ok (.slice (some ⟨W.heap.size, 0, none⟩) (n + 1) (n + 1)) (W.alloc (.cells (List.replicate (n + 1) (Value.int .u64 0)).toArray 84)) := by
  have := mk64 (n + 1) h W
  rwa [show ((n + 1 : Nat) : Int) = (n : Int) + 1 from by omega] at this
theorem mk64a (n m : Nat) (h : n + m ≤ 35184372088832) (W : World) : (Instr.makeSlice 146 (.int .i64 ((n : Int) + (m : Int))) (.int .i64 ((n : Int) + (m : Int)))).run Tryz.prog W = .ok (.slice (some ⟨W.heap.size, 0, none⟩) (n + m) (n + m)) (W.alloc (.cells (List.replicate (n + m) (Value.int .u64 0)).toArray 84)) := by
  have := mk64 (n + m) h W
  rwa [show ((n + m : Nat) : Int) = (n : Int) + (m : Int) from by omega] at this
theorem add_none (b off j : Nat) : (Addr.add ⟨b, off, none⟩ j) = ⟨b, off + j, none⟩ := by first | rfl | simp [Addr.add]
theorem patch_zero_all {L zs : List Nat} (h : zs.length = L.length) : patch L 0 zs = zs := by simp [patch, h]

/-- A row of words of its own, of so many places, that makes n. -/
def Words (w w' : World) (len n : Nat) (e : Ending) : Prop :=
  ∃ zs g, e = .returned (.slice (some ⟨g, 0, none⟩) zs.length zs.length) ∧ zs.length = len ∧ Dig 18446744073709551616 zs ∧ val 18446744073709551616 zs = n ∧ w.heap.size ≤ g ∧ Blk w' g 84 (u64s zs) ∧ Below w.heap.size w w'

set_option maxHeartbeats 1600000 in
theorem sumOf_any (A A2 : Option Addr) (c c2 : Nat) (us vs : List Nat) (w : World) (B : Nat) (hr : Rd w B A (u64s us)) (hr2 : Rd w B A2 (u64s vs)) (hB : B ≤ w.heap.size) (hd : Dig 18446744073709551616 us) (hd2 : Dig 18446744073709551616 vs) (hle : vs.length ≤ us.length) (hm : us.length ≤ 35184372088000) :
    Calls Tryz.prog 158 #[.slice A us.length c, .slice A2 vs.length c2] w fun e w' => Words w w' (us.length + 1) (val 18446744073709551616 us + val 18446744073709551616 vs) e := by
  have hmk := fun W => mk64s us.length (by omega) W
  go_enter Tryz.func158, Tryz.ntmps158
  go_wp2_with ((with_reducible refine wpList_copy_splice (o := ⟨some 12, _, _, _, _, _⟩) rfl _ _ _ _ rfl 84 Tryz.underlying146 ?u1 _ _ _ _ _ _ rfl rfl w.heap.size 0 (u64s (List.replicate (us.length + 1) 0)) 84 ?c1 (u64s us) ?c2 ?c3 ?c4 ?c5 w.heap.size w ?c6 (Nat.le_refl _) ?_); rotate_right; intro w2 hg2 hb2)
  case u1 => kernel_rfl
  case c1 => exact Blk.new_ (by simp [u64s])
  case c2 => rw [u64s_length]; simp
  case c3 =>
    intro hp
    have hne : u64s us ≠ [] := by intro e; rw [e] at hp; simp at hp
    obtain ⟨b, off, rfl, hbB, hcell⟩ := hr hne
    refine ⟨_, rfl, fun j v hv => ?_⟩
    rw [add_none]
    rw [World.cell?_alloc_past _ _ _ (by show b < _; omega)]
    exact hcell j v hv
  case c4 => rw [u64s_length, u64s_length, List.length_replicate]; omega
  case c5 => exact one_u64s us
  case c6 => exact (Below.refl _ _).alloc (Nat.le_refl _) _
  have hg3 : Blk w2 w.heap.size 84 (u64s (us ++ [0])) := by
    have e : splice (u64s (List.replicate (us.length + 1) 0)) 0 (u64s us) = u64s (us ++ [0]) := by
      rw [u64s_splice]; congr 1
      simp [patch, List.drop_replicate]
    rw [← e]; exact hg2.out
  have hz := hb2.size
  have hrx : Rx w2 w.heap.size A2 (u64s vs) := (hr2.below (hb2.mono hB)).rx hB (by omega)
  have hdl : Dig 18446744073709551616 (us ++ [0]) := hd.append_ (Dig.cons_ (by omega) (Dig.nil_ _))
  have hvl := Lib.hid (show val 18446744073709551616 (((us ++ [0]).drop 0).take (us.length + 1)) = val 18446744073709551616 us from by
    rw [List.drop_zero, List.take_of_length_le (by simp), val_snoc]; simp)
  clear hg2 hmk
  refine (addInto_any w.heap.size 0 (us.length + 1) (us.length + 1) (us ++ [0]) vs A2 c2 w2 hg3 hrx (by simp) (by omega) hdl hd2 (by simp; omega)).mono ?_
  rintro e w3 ⟨zs, q, rfl, hzl, hzd, hq, hv, hblk, htn⟩
  have Hzl := Lib.hid hzl
  have Hv := Lib.hid hv
  clear hzl hv
  go_wp2_with fail
  go_ret
  have hv := Hv.out
  rw [hvl.out] at hv
  rw [patch_zero_all (by rw [Hzl.out]; simp)] at hblk
  exact ⟨zs, _, by rw [Hzl.out]; rfl, Hzl.out, hzd, carry_zero2 hv (sum_lt (by omega) (val_lt _ _ hd) (val_lt_le hd2 hle (by omega))), Nat.le_refl _, hblk, hb2.trans (htn.below (Nat.le_refl _) hz)⟩

theorem long_step {b k la v q : Nat} {us zs zr : List Nat} {X : Nat} (hv : val b zs = val b us * X) (hk : k + la < zs.length) (hl : zr.length = la) (h0 : zs[k + la] = 0) (hz : val b zr + b ^ la * q = val b ((zs.drop k).take la) + val b us * v) :
    val b ((patch zs k zr).set (k + la) q) = val b us * (X + b ^ k * v) := by
  subst hl
  have h1 := patch_val b (L := zs) (o := k) (zs := zr) (by omega)
  have hpl := patch_length (L := zs) (o := k) (zs := zr) (by omega)
  have h2 := val_set b (patch zs k zr) (k + zr.length) q (by omega)
  have h3 : (patch zs k zr)[k + zr.length]'(by omega) = 0 := by
    rw [← h0]
    unfold patch
    rw [List.getElem_append_right (by simp; omega)]
    rw [List.getElem_drop]
    congr 1
    simp; omega
  rw [h3, Nat.mul_zero, Nat.add_zero] at h2
  rw [h2, Nat.pow_add, Nat.mul_add, ← hv]
  have h4 : b ^ k * val b zr + b ^ k * (b ^ zr.length * q) = b ^ k * val b ((zs.drop k).take zr.length) + b ^ k * (val b us * v) := by
    rw [← Nat.mul_add, hz, Nat.mul_add]
  rw [Nat.mul_assoc, show val b us * (b ^ k * v) = b ^ k * (val b us * v) from by rw [← Nat.mul_assoc, Nat.mul_comm (val b us), Nat.mul_assoc]]
  generalize b ^ k * (b ^ zr.length * q) = t1 at *
  generalize b ^ k * (val b us * v) = t2 at *
  omega

set_option maxHeartbeats 1600000 in
theorem longProduct_any (A A2 : Option Addr) (c c2 : Nat) (us vs : List Nat) (w : World) (B : Nat) (hr : Rd w B A (u64s us)) (hr2 : Rd w B A2 (u64s vs)) (hB : B ≤ w.heap.size) (hd : Dig 18446744073709551616 us) (hd2 : Dig 18446744073709551616 vs) (hm : us.length + vs.length ≤ 35184372088000) :
    Calls Tryz.prog 144 #[.slice A us.length c, .slice A2 vs.length c2] w fun e w' => Words w w' (us.length + vs.length) (val 18446744073709551616 us * val 18446744073709551616 vs) e := by
  have hmk := fun W => mk64a us.length vs.length (by omega) W
  go_enter Tryz.func144, Tryz.ntmps144
  go_wp2_with fail
  go_loopw [6, 7, 16] (fun _ _ i wr => ∃ (k : Nat) (zs : List Nat), k ≤ vs.length ∧ i = .int .i64 k ∧ zs.length = us.length + vs.length ∧ Dig 18446744073709551616 zs ∧ Blk wr w.heap.size 84 (u64s zs) ∧ val 18446744073709551616 zs = val 18446744073709551616 us * val 18446744073709551616 (vs.take k) ∧ (∀ j (h : j < zs.length), k + us.length ≤ j → zs[j] = 0) ∧ Below w.heap.size w wr) (fun _ _ i _ => vs.length - (intOf i).toNat)
  case atStart => exact ⟨0, List.replicate (us.length + vs.length) 0, by omega, rfl, by simp, Dig.zeros_ (by omega) _, Blk.new_ (by simp [u64s]), by rw [val_zeros]; simp [val], fun j h _ => by simp, (Below.refl _ _).alloc (Nat.le_refl _) _⟩
  case round =>
    obtain ⟨k, zs, hk, rfl, hzl, hzd, hblk, hv, hzero, hbel⟩ := hrel
    have Hzl := Lib.hid hzl
    have Hv := Lib.hid hv
    have Hzero := Lib.hid hzero
    have hbs := hbel.size
    by_cases hlt : k < vs.length
    · obtain ⟨b, off, rfl, hb, hx⟩ := hr2.at64 hlt
      have hx := (hbel.cell (p := ⟨b, off + k, none⟩) (show b < _ by omega)).trans hx
      have hxd := hd2.at_ k hlt
      have hrx : Rx wr w.heap.size A (u64s us) := (hr.below (hbel.mono hB)).rx hB (by omega)
      have hz1 : k + us.length < zs.length := by omega
      have h0 := hzero (k + us.length) hz1 (Nat.le_refl _)
      have ho : k + us.length ≤ zs.length := by omega
      have hzm : zs.length ≤ 281474976710656 := by omega
      have hum : us.length ≤ 281474976710656 := by omega
      have H0 := Lib.hid h0
      clear hzl hv hzero h0
      go_wp2_with fail
      rw [show k + us.length - k = us.length from by omega]
      refine (addRow_any w.heap.size k _ zs us vs[k] A c _ hblk hrx ho (by omega) hzd hd hxd hzm hum).mono ?_
      rintro e w2 ⟨zr, q, rfl, hrl, hrd, hq, hrv, hblk2, htn⟩
      have hpl : (patch zs k zr).length = zs.length := patch_length (by omega)
      obtain ⟨vv, hcc⟩ : ∃ vv, w2.cell? ⟨w.heap.size, k + us.length, none⟩ = some vv := ⟨_, (hblk2.cell (k + us.length)).trans (u64s_at (by omega))⟩
      have hf := hblk2.frozen (k + us.length)
      have Hrl := Lib.hid hrl
      have Hrv := Lib.hid hrv
      have Hpl := Lib.hid hpl
      clear hrl hrv hpl
      go_wp2_with fail
      go_roundw
      case rel =>
        refine ⟨k + 1, (patch zs k zr).set (k + us.length) q, by omega, by go_num, by rw [List.length_set, Hpl.out, Hzl.out], (patch_dig hzd hrd).set_ _ _ hq, ?_, ?_, ?_, (hbel.trans (htn.below (Nat.le_refl _) hbs)).setCell (p := ⟨w.heap.size, k + us.length, none⟩) (Nat.le_refl _) _⟩
        · have := hblk2.set_ (k + us.length) (.int .u64 (q : Int))
          rwa [u64s_set] at this
        · rw [long_step Hv.out hz1 Hrl.out H0.out Hrv.out, val_take_succ _ vs k hlt]
        · intro j hj hkj
          have hj2 : j < zs.length := by rw [List.length_set, Hpl.out] at hj; exact hj
          rw [List.getElem_set, if_neg (by omega)]
          have e := Hzero.out j hj2 (by omega)
          rw [← e]
          unfold patch
          have := Hrl.out
          rw [List.getElem_append_right (by simp; omega), List.getElem_drop]
          congr 1
          simp; omega
      case measure => simp [intOf]; omega
    · obtain rfl : k = vs.length := by omega
      clear hzl hv hzero
      go_wp2_with fail
      go_ret
      have hv := Hv.out
      rw [List.take_length] at hv
      exact ⟨zs, _, by rw [Hzl.out]; rfl, Hzl.out, hzd, hv, Nat.le_refl _, hblk, hbel⟩
end
end Go.Proofs.YtadpelhmjmamnaaGreatDoor
