/- The contracts of Of and Len. -/
import Derived.Test.YtogkfpbapjjgfaaDoorDivW
namespace Go.Proofs.YtogkfpbapjjgfaaDoor
open Go.RowKit

/-- How many bits. -/
def bitsOf (n : Nat) : Nat := if n = 0 then 0 else Nat.log2 n + 1

set_option maxHeartbeats 400000 in
theorem of_any (n : Nat) (h : n < 18446744073709551616) (w : World) :
    Calls Tryd.prog 12 #[.int .u64 (n : Int)] w fun e w' => ∃ zs A' c', e = .returned (.slice A' zs.length c') ∧ Num 4294967296 zs n ∧ Res w' w.heap.size 31 A' c' (u32s zs) ∧ Below w.heap.size w w' := by
  go_enter Tryd.func12, Tryd.ntmps12
  go_wp2_with fail
  have hblk : Blk (w.alloc (.cells #[.int .u64 (n : Int)] 24)) w.heap.size 24 (u64s [n]) := Blk.new_ rfl
  refine (narrow_any (some ⟨w.heap.size, 0, none⟩) 1 [n] _ (w.heap.size + 1) ?_ ?_ ?_ ?_ ?_).mono ?_
  · exact Rd.of_blk hblk (by omega) 0 (fun k v hv => by rw [Nat.zero_add]; exact hv)
  · simp
  · exact Dig.cons_ h (Dig.nil_ _)
  · simp
  · simp
  rintro e w' ⟨zs, A', c', rfl, hn, hres, hb⟩
  go_wp2
  go_ret
  have hz : (w.alloc (.cells #[.int .u64 (n : Int)] 24)).heap.size = w.heap.size + 1 := by simp
  rw [hz] at hres hb
  exact ⟨zs, A', c', rfl, by simpa [val] using hn, hres.mono (by omega), ((Below.refl _ _).alloc (Nat.le_refl _) _).trans (hb.mono (by omega))⟩

theorem bitLen_val (x : Nat) (h : x < 18446744073709551616) : Lib.bitLen x = bitsOf x := by
  unfold bitsOf
  by_cases h0 : x = 0
  · subst h0; rfl
  · rw [if_neg h0]
    obtain ⟨a, b, c⟩ := bitLen_bounds x h h0
    have h1 := (Nat.le_log2 h0).2 b
    have h2 := (Nat.log2_lt h0).2 c
    omega
theorem bitsOf_val {zs : List Nat} {n : Nat} (h : Num 4294967296 zs n) (hn : zs ≠ []) (hl : zs.length - 1 < zs.length) : bitsOf n = 32 * (zs.length - 1) + bitsOf (zs[zs.length - 1]) := by
  have ht := trimL_last h.2.1 hn
  obtain ⟨t, hte⟩ : ∃ t, t = zs[zs.length - 1] := ⟨_, rfl⟩
  have e : zs = zs.take (zs.length - 1) ++ [zs[zs.length - 1]] := by
    rw [← List.take_succ_eq_append_getElem (by omega), show zs.length - 1 + 1 = zs.length from by omega, List.take_length]
  have hv : n = val 4294967296 (zs.take (zs.length - 1)) + 4294967296 ^ (zs.length - 1) * t := by
    have h1 := val_snoc 4294967296 (zs.take (zs.length - 1)) t
    rw [List.length_take, Nat.min_eq_left (by omega)] at h1
    rw [← h1, hte, ← e, h.2.2]
  have hlt := val_lt 4294967296 _ (h.1.take_ (zs.length - 1))
  rw [List.length_take, Nat.min_eq_left (by omega)] at hlt
  rw [← hte] at ht ⊢
  have e2 : (4294967296 : Nat) ^ (zs.length - 1) = 2 ^ (32 * (zs.length - 1)) := by rw [show (4294967296 : Nat) = 2 ^ 32 from rfl, ← Nat.pow_mul]
  rw [e2] at hv hlt
  have hn0 : n ≠ 0 := by
    have := Nat.mul_pos (Nat.two_pow_pos (32 * (zs.length - 1))) (Nat.pos_of_ne_zero ht)
    omega
  unfold bitsOf
  rw [if_neg ht, if_neg hn0]
  have a1 : 2 ^ Nat.log2 t ≤ t := (Nat.le_log2 ht).1 (Nat.le_refl _)
  have a2 : t < 2 ^ (Nat.log2 t + 1) := (Nat.log2_lt ht).1 (by omega)
  have b1 : 32 * (zs.length - 1) + Nat.log2 t ≤ Nat.log2 n := by
    refine (Nat.le_log2 hn0).2 ?_
    rw [Nat.pow_add]
    have := Nat.mul_le_mul_left (2 ^ (32 * (zs.length - 1))) a1
    omega
  have b2 : Nat.log2 n < 32 * (zs.length - 1) + Nat.log2 t + 1 := by
    refine (Nat.log2_lt hn0).2 ?_
    rw [Nat.add_assoc, Nat.pow_add]
    have h3 : 2 ^ (32 * (zs.length - 1)) * (t + 1) ≤ 2 ^ (32 * (zs.length - 1)) * 2 ^ (Nat.log2 t + 1) := Nat.mul_le_mul_left _ a2
    rw [Nat.mul_add] at h3
    omega
  omega

set_option maxHeartbeats 400000 in
theorem len_any (A : Option Addr) (c : Nat) (xs : List Nat) (w : World) (B : Nat) (hr : Rd w B A (u32s xs)) (hd : Dig 4294967296 xs) (hc : xs.length ≤ c) (hm : xs.length ≤ 70368744177664) :
    Calls Tryd.prog 14 #[.slice A xs.length c] w fun e w' => e = .returned (.int .i64 (bitsOf (val 4294967296 xs) : Nat)) ∧ w = w' := by
  have hn := Num.of_trim hd
  have hl := trimL_length_le xs
  have hrt : Rd w B A (u32s (trimL xs)) := by rw [u32s_trim]; exact hr.take _
  by_cases h0 : trimL xs = []
  · have hl0 : ((trimL xs).length : Int) = 0 := by rw [h0]; rfl
    have hv : bitsOf (val 4294967296 xs) = 0 := by rw [← val_trim, h0]; rfl
    have Hv := Lib.hid hv
    clear hv h0 hn
    go_enter Tryd.func14, Tryd.ntmps14
    go_wp2_with (go_at_call 37; (with_reducible refine (trim_any A c xs _ B hr hc (by omega)).mono ?_); rintro e w' ⟨rfl, rfl⟩)
    go_ret
    exact ⟨by rw [Hv.out]; rfl, rfl⟩
  · have hne : (trimL xs).length ≠ 0 := by intro e; exact h0 (List.eq_nil_of_length_eq_zero e)
    have hv := bitsOf_val hn h0 (by omega)
    obtain ⟨b, off, rfl, hbB, hcell⟩ := hrt (by intro e; have := u32s_length (trimL xs); rw [e] at this; simp at this; omega)
    obtain ⟨k, hk⟩ : ∃ k, (trimL xs).length = k + 1 := ⟨(trimL xs).length - 1, by omega⟩
    have hcl := hcell k _ (u32s_at (by omega))
    have hx := hn.1.at_ k (by omega)
    have hv2 : bitsOf (val 4294967296 xs) = 32 * k + bitsOf ((trimL xs)[k]) := by
      rw [hv]; simp [hk]
    have hb32 : bitsOf ((trimL xs)[k]) ≤ 32 := by
      rw [← bitLen_val _ (by omega)]; exact Lib.bitLen_le _ 32 (by omega) hx
    obtain ⟨x, hxe⟩ : ∃ x, x = (trimL xs)[k] := ⟨_, rfl⟩
    rw [← hxe] at hcl hx hv2 hb32
    have hT : Hid ((trimL xs).length = k + 1) := hk
    have Hv2 := Lib.hid hv2
    have hbl := bitLen_val x (by omega)
    have Hbl := Lib.hid hbl
    have hkb : k < 70368744177664 := by omega
    clear hv hv2 hn hcell hxe hbl h0 hne hk
    go_enter Tryd.func14, Tryd.ntmps14
    go_wp2_with (first
      | (go_at_call 37; (with_reducible refine (trim_any _ c xs _ B hr hc (by omega)).mono ?_); rintro e w' ⟨rfl, rfl⟩; rw [hT.out])
      | (go_at_call 40; (with_reducible refine (len32_any _ _ hx).mono ?_); rintro e w' ⟨rfl, rfl⟩; rw [Hbl.out]))
    go_ret
    refine ⟨?_, rfl⟩
    rw [Hv2.out]
    simp
end Go.Proofs.YtogkfpbapjjgfaaDoor
