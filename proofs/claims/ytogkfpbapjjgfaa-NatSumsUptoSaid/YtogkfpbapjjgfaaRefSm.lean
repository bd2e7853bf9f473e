/- The contract of the reference's Small. -/
import Derived.Test.YtogkfpbapjjgfaaRefSh
namespace Go.Proofs.Ytogkfpbapjjgfaa
open Go.RowKit

theorem val_take_at0 (b : Nat) (xs : List Nat) (k : Nat) : val b (xs.take (k + 1)) = val b (xs.take k) + b ^ k * at0 xs k := by
  by_cases h : k < xs.length
  · rw [val_take_succ b xs k h, at0_in h]
  · rw [at0_out (by omega), List.take_of_length_le (by omega), List.take_of_length_le (by omega)]; simp
theorem val_take_all (b : Nat) (xs : List Nat) (k : Nat) (h : xs.length ≤ k) : val b (xs.take k) = val b xs := by rw [List.take_of_length_le h]
theorem val_take_drop (b : Nat) (xs : List Nat) (k : Nat) (h : k ≤ xs.length) : val b xs = val b (xs.take k) + b ^ k * val b (xs.drop k) := by
  conv => lhs; rw [← List.take_append_drop k xs]
  rw [val_append, List.length_take, Nat.min_eq_left h]

/-- What Small's row and carry are behind k limbs. -/
def Smalled (xs : List Nat) (x k : Nat) (zs : List Nat) (c : Nat) : Prop :=
  Dig 4294967296 zs ∧ c < 4294967296 ∧ val 4294967296 zs + 4294967296 ^ k * c = val 4294967296 (xs.take k) * x ∧ ∀ j (h : j < zs.length), k ≤ j → zs[j] = 0
theorem Smalled.start (xs : List Nat) (x n : Nat) : Smalled xs x 0 (List.replicate n 0) 0 :=
  ⟨Dig.zeros_ (by omega) _, by omega, by simp [val_zeros, val], fun j h _ => by simp⟩
theorem Smalled.step {xs zs : List Nat} {x k c : Nat} (h : Smalled xs x k zs c) (hz : k < zs.length) (hd : Dig 4294967296 xs) (hx : x < 4294967296) :
    Smalled xs x (k + 1) (zs.set k ((at0 xs k * x + c) % 4294967296)) ((at0 xs k * x + c) / 4294967296) := by
  obtain ⟨h1, h2, h3, h4⟩ := h
  have ha := at0_lt hd k
  have hp : at0 xs k * x ≤ 4294967295 * 4294967295 := Nat.mul_le_mul (by omega) (by omega)
  refine ⟨h1.set_ _ _ (Nat.mod_lt _ (by omega)), ?_, ?_, fun i hi hki => ?_⟩
  · rw [Nat.div_lt_iff_lt_mul (by omega)]; omega
  · have e1 := val_set 4294967296 zs k ((at0 xs k * x + c) % 4294967296) hz
    rw [h4 k hz (Nat.le_refl _)] at e1
    have e2 := Nat.mod_add_div (at0 xs k * x + c) 4294967296
    rw [val_take_at0, Nat.add_mul, ← h3, Nat.pow_succ, Nat.mul_assoc, Nat.mul_assoc]
    have e3 : 4294967296 ^ k * (at0 xs k * x) + 4294967296 ^ k * c = 4294967296 ^ k * ((at0 xs k * x + c) % 4294967296) + 4294967296 ^ k * (4294967296 * ((at0 xs k * x + c) / 4294967296)) := by
      rw [← Nat.mul_add, ← Nat.mul_add, e2]
    omega
  · rw [List.getElem_set, if_neg (by omega)]
    exact h4 i (by simpa using hi) (by omega)
theorem carry_none {b v n c u x : Nat} (h : v + b ^ (n + 1) * c = u * x) (hu : u < b ^ n) (hx : x < b) : c = 0 := by
  rcases Nat.eq_zero_or_pos c with h0 | h0
  · exact h0
  · exfalso
    have h1 : u * x ≤ u * b := Nat.mul_le_mul_left _ (Nat.le_of_lt hx)
    have h2 : u * b < b ^ n * b := (Nat.mul_lt_mul_right (by omega)).2 hu
    have h3 : b ^ n * b * 1 ≤ b ^ n * b * c := Nat.mul_le_mul_left _ h0
    rw [Nat.pow_succ] at h
    generalize b ^ n * b = q at *
    omega
theorem Smalled.last {xs zs : List Nat} {x c : Nat} (h : Smalled xs x (xs.length + 1) zs c) (hd : Dig 4294967296 xs) (hx : x < 4294967296) : val 4294967296 zs = val 4294967296 xs * x := by
  obtain ⟨h1, h2, h3, h4⟩ := h
  rw [val_take_all _ _ _ (by omega)] at h3
  obtain rfl := carry_none h3 (val_lt _ xs hd) hx
  rw [Nat.mul_zero, Nat.add_zero] at h3
  exact h3

set_option maxHeartbeats 800000 in
theorem rsmall_any (A : Option Addr) (c : Nat) (xs : List Nat) (x : Nat) (w : World) (B : Nat) (hr : Rd w B A (u32s xs)) (hB : B ≤ w.heap.size) (hd : Dig 4294967296 xs) (hx : x < 4294967296) (hm : xs.length ≤ 70368744170000) :
    Calls Try.prog 39 #[.slice A xs.length c, .int .u32 (x : Int)] w fun e w' => ∃ zs A' c', e = .returned (.slice A' zs.length c') ∧ Num 4294967296 zs (val 4294967296 xs * x) ∧ Res w' w.heap.size 34 A' c' (u32s zs) ∧ Below w.heap.size w w' := by
  have hmk : ∀ W : World, (Instr.makeSlice 24 (.int .i64 ((xs.length : Int) + 1)) (.int .i64 ((xs.length : Int) + 1))).run Try.prog W = .ok (.slice (some ⟨W.heap.size, 0, none⟩) (xs.length + 1) (xs.length + 1)) (W.alloc (.cells (List.replicate (xs.length + 1) (Value.int .u32 0)).toArray 34)) := fun W => by
    have := mk32 (xs.length + 1) (by omega) W
    rwa [show ((xs.length + 1 : Nat) : Int) = (xs.length : Int) + 1 from by omega] at this
  go_enter Try.func39, Try.ntmps39
  go_wp2
  go_loopw [6, 7, 8, 15] (fun cv _ _ i wr => ∃ (k cc : Nat) (zs : List Nat), k ≤ xs.length + 1 ∧ i = .int .i64 k ∧ cv = .int .u64 cc ∧ zs.length = xs.length + 1 ∧ Blk wr w.heap.size 34 (u32s zs) ∧ Smalled xs x k zs cc ∧ Below w.heap.size w wr) (fun _ _ _ i _ => xs.length + 1 - (intOf i).toNat)
  case atStart => exact ⟨0, 0, List.replicate (xs.length + 1) 0, by omega, rfl, rfl, by simp, Blk.new_ (by simp [u32s]), Smalled.start _ _ _, (Below.refl _ _).alloc (Nat.le_refl _) _⟩
  case round =>
    obtain ⟨k, cc, zs, hk, rfl, rfl, hzl, hblk, hsm, hbel⟩ := hrel
    by_cases hlt : k < xs.length + 1
    · have hkz : k < zs.length := by omega
      have Hzl := Lib.hid hzl
      clear hzl
      have hc2 := (hblk.cell k).trans (u32s_at hkz)
      have hf2 := hblk.frozen k
      have ha := at0_lt hd k
      have hcc := hsm.2.1
      obtain ⟨y, hy⟩ : ∃ y, y = at0 xs k := ⟨_, rfl⟩
      obtain ⟨p, hp⟩ : ∃ p, p = y * x := ⟨_, rfl⟩
      rw [← hy] at ha
      have hpb : p ≤ 18446744065119617025 := by
        rw [hp]
        have : y * x ≤ 4294967295 * 4294967295 := Nat.mul_le_mul (by omega) (by omega)
        omega
      have e1 : IntKind.u64.wrap ((y : Int) * (x : Int)) = (p : Int) := by
        rw [IntKind.wrap_u64, ← Int.natCast_mul, ← hp]; omega
      have hrw := hr.below (hbel.mono hB)
      have hm2 : xs.length ≤ 281474976710656 := by omega
      have hkb : k ≤ 9223372036854775807 := by omega
      have Hy := Lib.hid hy
      have Hp := Lib.hid hp
      have Hpb := Lib.hid hpb
      obtain ⟨sm, hsme⟩ : ∃ sm, sm = p + cc := ⟨_, rfl⟩
      have e2 : IntKind.u64.wrap ((p : Int) + (cc : Int)) = (sm : Int) := by
        rw [IntKind.wrap_u64]; omega
      have hsb : sm < 18446744073709551616 := by omega
      have Hsm := Lib.hid hsme
      clear hy hp hpb hsme
      go_wp2_with (go_at_call 36; (with_reducible refine (limb_any A c xs k _ B hrw hd hm2 hkb).mono ?_); rintro e w' ⟨rfl, rfl⟩; rw [← Hy.out])
      go_roundw
      case rel =>
        have hst := hsm.step hkz hd hx
        rw [← Hy.out, ← Hp.out, ← Hsm.out] at hst
        refine ⟨k + 1, sm / 4294967296, zs.set k (sm % 4294967296), by omega, by go_num, by go_num, by simpa using Hzl.out, ?_, hst, hbel.setCell (p := ⟨w.heap.size, k, none⟩) (Nat.le_refl _) _⟩
        have hb2 := hblk.set_ k (Value.int IntKind.u32 ((sm % 4294967296 : Nat) : Int))
        rw [u32s_set] at hb2
        exact hb2
      case measure => simp [intOf]; omega
    · obtain rfl : k = xs.length + 1 := by omega
      have hrd := (Res.of_blk0 hblk (Nat.le_refl _) (by rw [u32s_length]; omega)).rd
      have hv := hsm.last hd hx
      have Hv := Lib.hid hv
      have Hzl := Lib.hid hzl
      have hzm : zs.length ≤ 70368744177664 := by omega
      clear hzl hv
      go_wp2_with (go_at_call 17; rw [← Hzl.out]; refine (rnorm_any _ _ zs wr _ hrd (Nat.le_refl _) hzm).mono ?_; rintro e w2 ⟨A', c', rfl, hres, hb⟩)
      go_ret
      refine ⟨trimL zs, A', c', rfl, ?_, hres.mono hbel.size, hbel.trans (hb.mono hbel.size)⟩
      rw [← Hv.out]
      exact Num.of_trim hsm.1
end Go.Proofs.Ytogkfpbapjjgfaa
