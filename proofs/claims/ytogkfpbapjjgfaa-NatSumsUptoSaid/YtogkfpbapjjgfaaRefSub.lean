/- The contract of the reference's Sub. -/
import Derived.Test.YtogkfpbapjjgfaaRefSm
namespace Go.Proofs.Ytogkfpbapjjgfaa
open Go.RowKit

/-- What Sub's row and borrow are behind k limbs. -/
def Subbed (xs ys : List Nat) (k : Nat) (zs : List Nat) (c : Nat) : Prop :=
  Dig 4294967296 zs ∧ c ≤ 1 ∧ val 4294967296 zs + val 4294967296 (ys.take k) = val 4294967296 (xs.take k) + 4294967296 ^ k * c ∧ (∀ j (h : j < zs.length), k ≤ j → zs[j] = 0) ∧ zs.length = xs.length
theorem Subbed.start (xs ys : List Nat) : Subbed xs ys 0 (List.replicate xs.length 0) 0 :=
  ⟨Dig.zeros_ (by omega) _, by omega, by simp [val_zeros, val], fun j h _ => by simp, by simp⟩
theorem Subbed.step {xs ys zs : List Nat} {k c : Nat} (h : Subbed xs ys k zs c) (hz : k < zs.length) (hd : Dig 4294967296 xs) (hd2 : Dig 4294967296 ys) :
    Subbed xs ys (k + 1) (zs.set k ((4294967296 + at0 xs k - at0 ys k - c) % 4294967296)) (1 - (4294967296 + at0 xs k - at0 ys k - c) / 4294967296) := by
  obtain ⟨h1, h2, h3, h4, h5⟩ := h
  have ha := at0_lt hd k
  have hb := at0_lt hd2 k
  refine ⟨h1.set_ _ _ (Nat.mod_lt _ (by omega)), by omega, ?_, fun i hi hki => ?_, by simpa using h5⟩
  · have e1 := val_set 4294967296 zs k ((4294967296 + at0 xs k - at0 ys k - c) % 4294967296) hz
    rw [h4 k hz (Nat.le_refl _), Nat.mul_zero, Nat.add_zero] at e1
    rw [val_take_at0, val_take_at0, Nat.pow_succ]
    generalize at0 xs k = x at *
    generalize at0 ys k = y at *
    have e2 : (4294967296 + x - y - c) % 4294967296 + y + c = x + 4294967296 * (1 - (4294967296 + x - y - c) / 4294967296) := by omega
    generalize (4294967296 + x - y - c) % 4294967296 = r at *
    generalize 1 - (4294967296 + x - y - c) / 4294967296 = q at *
    have e3 : 4294967296 ^ k * r + 4294967296 ^ k * y + 4294967296 ^ k * c = 4294967296 ^ k * x + 4294967296 ^ k * 4294967296 * q := by
      rw [← Nat.mul_add, ← Nat.mul_add, e2, Nat.mul_add, Nat.mul_assoc]
    generalize 4294967296 ^ k * 4294967296 * q = t1 at *
    generalize 4294967296 ^ k * r = t2 at *
    generalize 4294967296 ^ k * y = t3 at *
    generalize 4294967296 ^ k * c = t4 at *
    generalize 4294967296 ^ k * x = t5 at *
    omega
  · rw [List.getElem_set, if_neg (by omega)]
    exact h4 i (by simpa using hi) (by omega)
theorem borrow_none {b v n c x y : Nat} (h : v + y = x + b ^ n * c) (hv : v < b ^ n) (hy : y ≤ x) : c = 0 := by
  rcases Nat.eq_zero_or_pos c with h0 | h0
  · exact h0
  · exfalso
    have h3 : b ^ n * 1 ≤ b ^ n * c := Nat.mul_le_mul_left _ h0
    generalize b ^ n = q at *
    omega
theorem val_take_le {b : Nat} (xs : List Nat) (n : Nat) (h : val b xs < b ^ n) (_ : Dig b xs) (_ : 0 < b) : val b (xs.take n) = val b xs := by
  by_cases hn : xs.length ≤ n
  · exact val_take_all _ _ _ hn
  · have e := val_take_drop b xs n (by omega)
    rcases Nat.eq_zero_or_pos (val b (xs.drop n)) with h0 | h0
    · rw [h0] at e; omega
    · exfalso
      have h3 : b ^ n * 1 ≤ b ^ n * val b (xs.drop n) := Nat.mul_le_mul_left _ h0
      omega
theorem Subbed.last {xs ys zs : List Nat} {c : Nat} (h : Subbed xs ys xs.length zs c) (hd : Dig 4294967296 xs) (hd2 : Dig 4294967296 ys) (hle : val 4294967296 ys ≤ val 4294967296 xs) : val 4294967296 zs = val 4294967296 xs - val 4294967296 ys := by
  obtain ⟨h1, h2, h3, h4, h5⟩ := h
  have hx := val_lt _ xs hd
  rw [List.take_length, val_take_le ys _ (by omega) hd2 (by omega)] at h3
  have hz := val_lt _ zs h1
  rw [h5] at hz
  obtain rfl := borrow_none h3 hz hle
  rw [Nat.mul_zero] at h3
  generalize val 4294967296 ys = q1 at *
  generalize val 4294967296 xs = q2 at *
  generalize val 4294967296 zs = q3 at *
  omega

set_option maxHeartbeats 800000 in
theorem rsub_any (A A2 : Option Addr) (c c2 : Nat) (xs ys : List Nat) (w : World) (B : Nat) (hr : Rd w B A (u32s xs)) (hr2 : Rd w B A2 (u32s ys)) (hB : B ≤ w.heap.size) (hd : Dig 4294967296 xs) (hd2 : Dig 4294967296 ys) (hm : xs.length ≤ 70368744170000) (hm2 : ys.length ≤ 281474976710656) (hle : val 4294967296 ys ≤ val 4294967296 xs) :
    Calls Try.prog 16 #[.slice A xs.length c, .slice A2 ys.length c2] w fun e w' => ∃ zs A' c', e = .returned (.slice A' zs.length c') ∧ Num 4294967296 zs (val 4294967296 xs - val 4294967296 ys) ∧ Res w' w.heap.size 34 A' c' (u32s zs) ∧ Below w.heap.size w w' := by
  have hmk := fun W => mk32 xs.length (by omega) W
  go_enter Try.func16, Try.ntmps16
  go_wp2
  go_loopw [6, 7, 8, 14] (fun cv _ _ i wr => ∃ (k cc : Nat) (zs : List Nat), k ≤ xs.length ∧ i = .int .i64 k ∧ cv = .int .u64 cc ∧ Blk wr w.heap.size 34 (u32s zs) ∧ Subbed xs ys k zs cc ∧ Below w.heap.size w wr) (fun _ _ _ i _ => xs.length - (intOf i).toNat)
  case atStart => exact ⟨0, 0, _, by omega, rfl, rfl, Blk.new_ (by simp [u32s]), Subbed.start _ _, (Below.refl _ _).alloc (Nat.le_refl _) _⟩
  case round =>
    obtain ⟨k, cc, zs, hk, rfl, rfl, hblk, hsm, hbel⟩ := hrel
    by_cases hlt : k < xs.length
    · have hkz : k < zs.length := by rw [hsm.2.2.2.2]; exact hlt
      have hc2 := (hblk.cell k).trans (u32s_at hkz)
      have hf2 := hblk.frozen k
      have ha := at0_lt hd k
      have hb := at0_lt hd2 k
      have hcc := hsm.2.1
      obtain ⟨x, hxe⟩ : ∃ x, x = at0 xs k := ⟨_, rfl⟩
      obtain ⟨y, hye⟩ : ∃ y, y = at0 ys k := ⟨_, rfl⟩
      rw [← hxe] at ha
      rw [← hye] at hb
      obtain ⟨sm, hsme⟩ : ∃ sm, sm = 4294967296 + x - y - cc := ⟨_, rfl⟩
      have e2 : (4294967296 : Int) + (x : Int) - (y : Int) - (cc : Int) = (sm : Int) := by omega
      have hsb : sm < 8589934592 := by omega
      have hrw := hr.below (hbel.mono hB)
      have hrw2 := hr2.below (hbel.mono hB)
      have hm1 : xs.length ≤ 281474976710656 := by omega
      have hkb : k ≤ 9223372036854775807 := by omega
      have Hx := Lib.hid hxe
      have Hy := Lib.hid hye
      have Hsm := Lib.hid hsme
      clear hxe hye hsme
      go_wp2_with (first
        | (go_at_call 36; (with_reducible refine (limb_any A c xs k _ B hrw hd hm1 hkb).mono ?_); rintro e w' ⟨rfl, rfl⟩; rw [← Hx.out])
        | (go_at_call 36; (with_reducible refine (limb_any A2 c2 ys k _ B hrw2 hd2 hm2 hkb).mono ?_); rintro e w' ⟨rfl, rfl⟩; rw [← Hy.out]))
      go_roundw
      case rel =>
        have hst := hsm.step hkz hd hd2
        rw [← Hx.out, ← Hy.out, ← Hsm.out] at hst
        refine ⟨k + 1, 1 - sm / 4294967296, zs.set k (sm % 4294967296), by omega, by go_num, int_u64 (by omega), ?_, hst, hbel.setCell (p := ⟨w.heap.size, k, none⟩) (Nat.le_refl _) _⟩
        have hb2 := hblk.set_ k (Value.int IntKind.u32 ((sm % 4294967296 : Nat) : Int))
        rw [u32s_set] at hb2
        exact hb2
      case measure => simp [intOf]; omega
    · obtain rfl : k = xs.length := by omega
      have hrd := (Res.of_blk0 hblk (Nat.le_refl _) (by rw [u32s_length, hsm.2.2.2.2]; omega)).rd
      have hv := hsm.last hd hd2 hle
      have Hv := Lib.hid hv
      have Hzl := Lib.hid hsm.2.2.2.2
      have hzm : zs.length ≤ 70368744177664 := by rw [hsm.2.2.2.2]; omega
      clear hv
      go_wp2_with (go_at_call 17; rw [← Hzl.out]; refine (rnorm_any _ _ zs wr _ hrd (Nat.le_refl _) hzm).mono ?_; rintro e w2 ⟨A', c', rfl, hres, hb⟩)
      go_ret
      refine ⟨trimL zs, A', c', rfl, ?_, hres.mono hbel.size, hbel.trans (hb.mono hbel.size)⟩
      rw [← Hv.out]
      exact Num.of_trim hsm.1
end Go.Proofs.Ytogkfpbapjjgfaa
