/- The contracts of fieldPow and rootsOf. Conditions: the arguments are below the field's prime; sizes are even. -/
import Derived.Test.YtogkfpbapjjgfaaField
namespace Go.Proofs.Ytogkfpbapjjgfaa
open Go.RowKit

theorem pstep_odd (p o x j : Nat) : (o * x % p) * (x * x % p) ^ j % p = o * x ^ (2 * j + 1) % p := by
  rw [Nat.mul_mod, Nat.mod_mod, ← Nat.pow_mod, ← Nat.mul_mod, ← Nat.pow_two, ← Nat.pow_mul, Nat.pow_succ]
  congr 1
  rw [Nat.mul_assoc, Nat.mul_comm x]
theorem pstep_even (p o x j : Nat) : o * (x * x % p) ^ j % p = o * x ^ (2 * j) % p := by
  rw [Nat.mul_mod, ← Nat.pow_mod, ← Nat.mul_mod, ← Nat.pow_two, ← Nat.pow_mul]

set_option maxHeartbeats 800000 in
theorem fieldPow_any (a k : Nat) (ha : a < 18446744069414584321) (hk : k < 18446744073709551616) (w : World) : Calls Try.prog 69 #[.int .u64 (a : Int), .int .u64 (k : Int)] w fun e w' => ∃ r : Nat, e = .returned (.int .u64 (r : Int)) ∧ r = a ^ k % 18446744069414584321 ∧ w = w' := by
  go_enter Try.func69, Try.ntmps69
  go_wp2_with fail
  go_loop [0, 1, 5] (fun xv ev ov => ∃ x e o : Nat, x < 18446744069414584321 ∧ e < 18446744073709551616 ∧ o < 18446744069414584321 ∧ xv = .int .u64 x ∧ ev = .int .u64 e ∧ ov = .int .u64 o ∧ Hid (o * x ^ e % 18446744069414584321 = a ^ k % 18446744069414584321)) (fun _ ev _ => (intOf ev).toNat)
  case atStart => exact ⟨a, k, 1, ha, hk, by omega, rfl, rfl, rfl, Lib.hid (by rw [Nat.one_mul])⟩
  case round =>
    obtain ⟨x, e, o, hx, he, ho, rfl, rfl, rfl, H⟩ := hrel
    rcases Nat.eq_zero_or_pos e with h0 | h0
    · obtain rfl := h0
      go_wp2_with fail
      go_ret
      have := H.out
      rw [Nat.pow_zero, Nat.mul_one, Nat.mod_eq_of_lt ho] at this
      exact ⟨o, rfl, this, rfl⟩
    · rcases Nat.mod_two_eq_zero_or_one e with h2 | h2
      · obtain ⟨j, rfl⟩ : ∃ j, e = 2 * j := ⟨e / 2, by omega⟩
        have t1 : ((2 * (j : Int)) % 2 == 1) = false := by simp
        have t2 : (2 * (j : Int)) / 2 = (j : Int) := by omega
        have hj : 0 < j := by omega
        clear h2
        go_wp2_with (go_at_call 72; (with_reducible refine (fieldMul_any x x (by omega) (by omega) _).mono ?_); rintro e w' ⟨rfl, rfl⟩)
        go_round
        case rel => exact ⟨x * x % 18446744069414584321, j, o, Nat.mod_lt _ (by omega), by omega, ho, rfl, by go_num, rfl, Lib.hid (by rw [pstep_even]; exact H.out)⟩
        case measure => simp [intOf]; omega
      · obtain ⟨j, rfl⟩ : ∃ j, e = 2 * j + 1 := ⟨e / 2, by omega⟩
        have t1 : ((2 * (j : Int) + 1) % 2 == 1) = true := by rw [beq_iff_eq]; omega
        have t2 : (2 * (j : Int) + 1) / 2 = (j : Int) := by omega
        clear h2
        go_wp2_with (first
          | (go_at_call 72; (with_reducible refine (fieldMul_any o x (by omega) (by omega) _).mono ?_); rintro e w' ⟨rfl, rfl⟩)
          | (go_at_call 72; (with_reducible refine (fieldMul_any x x (by omega) (by omega) _).mono ?_); rintro e w' ⟨rfl, rfl⟩))
        go_round
        case rel => exact ⟨x * x % 18446744069414584321, j, o * x % 18446744069414584321, Nat.mod_lt _ (by omega), by omega, Nat.mod_lt _ (by omega), rfl, by go_num, rfl, Lib.hid (by rw [pstep_odd]; exact H.out)⟩
        case measure => simp [intOf]; omega

theorem pow_next (p x i : Nat) : x ^ i % p * x % p = x ^ (i + 1) % p := by
  rw [Nat.pow_succ, Nat.mul_mod, Nat.mod_mod, ← Nat.mul_mod]

set_option maxHeartbeats 1600000 in
theorem rootsOf_any (n h r : Nat) (hn : n = 2 * h) (h1 : 1 ≤ h) (hr : r < 18446744069414584321) (hm : h ≤ 35184372088832) (w : World) : Calls Try.prog 68 #[.int .i64 (n : Int), .int .u64 (r : Int)] w fun e w' => ∃ zs g, e = .returned (.slice (some ⟨g, 0, none⟩) zs.length zs.length) ∧ zs.length = h ∧ (∀ v ∈ zs, v < 18446744069414584321) ∧ (∀ i (hi : i < zs.length), zs[i] = r ^ i % 18446744069414584321) ∧ w.heap.size ≤ g ∧ Blk w' g 44 (u64s zs) ∧ Below w.heap.size w w' := by
  have q1 : (n : Int) / 2 = (h : Int) := by omega
  have q2 : max (h : Int) 1 = (h : Int) := by omega
  have hmk := fun W => mk64 h hm W
  have hnb : n ≤ 9223372036854775807 := by omega
  have hh0 : 0 < h := by omega
  clear hn
  have hc0 : ∀ W : World, Blk W w.heap.size 44 (u64s (List.replicate h 0)) → W.cell? ⟨w.heap.size, 0, none⟩ = some (.int .u64 0) ∧ W.frozen? ⟨w.heap.size, 0, none⟩ = false := fun W hW => ⟨by rw [hW.cell, u64s_at (by simpa using hh0)]; simp, hW.frozen 0⟩
  have hb0 : Blk (w.alloc (.cells (Array.replicate h (Value.int .u64 0)) 44)) w.heap.size 44 (u64s (List.replicate h 0)) := Blk.new_ (by simp [u64s])
  obtain ⟨c1, c2⟩ := hc0 _ hb0
  clear hc0
  go_enter Try.func68, Try.ntmps68
  go_wp2_with fail
  go_loopw [6] (fun i wr => ∃ (k : Nat) (zs : List Nat), 1 ≤ k ∧ k ≤ h ∧ i = .int .i64 k ∧ zs.length = h ∧ (∀ v ∈ zs, v < 18446744069414584321) ∧ Blk wr w.heap.size 44 (u64s zs) ∧ (∀ i (hi : i < zs.length), i < k → zs[i] = r ^ i % 18446744069414584321) ∧ Below w.heap.size w wr) (fun i _ => h - (intOf i).toNat)
  case atStart =>
    refine ⟨1, (List.replicate h 0).set 0 1, by omega, h1, rfl, by simp, ?_, ?_, ?_, (Below.refl _ _).alloc (Nat.le_refl _) _⟩
    · intro v hv
      rcases List.mem_or_eq_of_mem_set hv with hv | rfl
      · rw [(List.mem_replicate.1 hv).2]; omega
      · omega
    · refine Blk.new_ ?_
      apply Array.ext'
      simp [u64s, List.map_set]
    · intro i hi hi1
      obtain rfl : i = 0 := by omega
      simp
  case round =>
    clear hb0 c1 c2
    obtain ⟨k, zs, hk1, hk, rfl, hzl, hzp, hblk, hz, hbel⟩ := hrel
    by_cases hlt : k < h
    · obtain ⟨j, rfl⟩ : ∃ j, k = j + 1 := ⟨k - 1, by omega⟩
      have hj : j < zs.length := by omega
      have hj1 : j + 1 < zs.length := by omega
      have hc := (hblk.cell j).trans (u64s_at hj)
      have hc2 := (hblk.cell (j + 1)).trans (u64s_at hj1)
      have hf := hblk.frozen (j + 1)
      have hzj := hz j hj (by omega)
      have hzb := hzp _ (List.getElem_mem hj)
      have t1 : ((j : Int) + 1) - 1 = (j : Int) := by omega
      have Hz := Lib.hid hz
      have Hzj := Lib.hid hzj
      have Hzp := Lib.hid hzp
      have Hzl := Lib.hid hzl
      have hjh : j + 1 < h := hlt
      clear hz hzj hzp hzl
      go_wp2_with (go_at_call 72; (with_reducible refine (fieldMul_any zs[j] r (by omega) (by omega) _).mono ?_); rintro e w' ⟨rfl, rfl⟩)
      go_roundw
      case rel =>
        refine ⟨j + 1 + 1, zs.set (j + 1) (zs[j] * r % 18446744069414584321), by omega, by omega, by go_num, by rw [List.length_set]; exact Hzl.out, ?_, ?_, ?_, hbel.setCell (p := ⟨w.heap.size, j + 1, none⟩) (Nat.le_refl _) _⟩
        · intro v hv
          rcases List.mem_or_eq_of_mem_set hv with hv | rfl
          · exact Hzp.out v hv
          · exact Nat.mod_lt _ (by omega)
        · have := hblk.set_ (j + 1) (.int .u64 ((zs[j] * r % 18446744069414584321 : Nat) : Int))
          rw [u64s_set] at this
          exact this
        · intro i hi hik
          rw [List.getElem_set]
          split
          · rename_i hji
            subst hji
            rw [Hzj.out, pow_next]
          · exact Hz.out i (by simpa using hi) (by omega)
      case measure => simp [intOf]; omega
    · have hkh : k = h := by omega
      have Hz := Lib.hid hz
      have Hzl := Lib.hid hzl
      have Hkh := Lib.hid hkh
      have t2 : h ≤ k := by omega
      clear hz hzl hkh
      go_wp2_with fail
      go_ret
      exact ⟨zs, _, by rw [Hzl.out]; rfl, Hzl.out, hzp, fun i hi => Hz.out i hi (by rw [Hkh.out, ← Hzl.out]; exact hi), Nat.le_refl _, hblk, hbel⟩
end Go.Proofs.Ytogkfpbapjjgfaa
