/- The contract of the reference's Len. -/
import Derived.Test.YtogkfpbapjjgfaaDoorRefA
import Derived.Test.YtogkfpbapjjgfaaDoorOfLen
namespace Go.Proofs.YtogkfpbapjjgfaaDoor
open Go.RowKit

theorem bitsOf_half (x : Nat) (h : 0 < x) : bitsOf x = bitsOf (x / 2) + 1 := by
  unfold bitsOf
  rw [if_neg (by omega)]
  by_cases h1 : x / 2 = 0
  · rw [if_pos h1]
    have : x = 1 := by omega
    subst this
    decide
  · rw [if_neg h1]
    have e : Nat.log2 x = Nat.log2 (x / 2) + 1 := by
      have a1 : Nat.log2 (x / 2) + 1 ≤ Nat.log2 x := by
        refine (Nat.le_log2 (by omega)).2 ?_
        have := (Nat.le_log2 h1).1 (Nat.le_refl _)
        rw [Nat.pow_succ]; omega
      have a2 : Nat.log2 x < Nat.log2 (x / 2) + 1 + 1 := by
        refine (Nat.log2_lt (by omega)).2 ?_
        have := (Nat.log2_lt h1).1 (Nat.lt_succ_self _)
        rw [Nat.pow_succ]; omega
      omega
    omega

set_option maxHeartbeats 400000 in
theorem rlen_any (A : Option Addr) (c : Nat) (xs : List Nat) (w : World) (B : Nat) (hr : Rd w B A (u32s xs)) (hB : B ≤ w.heap.size) (hd : Dig 4294967296 xs) (hm : xs.length ≤ 70368744177664) :
    Calls Tryd.prog 15 #[.slice A xs.length c] w fun e w' => e = .returned (.int .i64 (bitsOf (val 4294967296 xs) : Nat)) ∧ Below w.heap.size w w' := by
  have hn := Num.of_trim hd
  have hl := trimL_length_le xs
  go_enter Tryd.func15, Tryd.ntmps15
  go_wp2_with fail
  refine (rnorm_any A c xs _ B hr hB hm).mono ?_
  rintro e w1 ⟨A1, c1, rfl, hres, hb⟩
  obtain ⟨ps, hps⟩ : ∃ ps, ps = trimL xs := ⟨_, rfl⟩
  rw [← hps] at hn hl hres ⊢
  have hrd := hres.rd
  by_cases h0 : ps = []
  · have hl0 : (ps.length : Int) = 0 := by rw [h0]; rfl
    have hv : bitsOf (val 4294967296 xs) = 0 := by rw [← hn.2.2, h0]; rfl
    have Hv := Lib.hid hv
    clear hv h0 hn hres hrd hps
    go_wp2
    go_ret
    exact ⟨by rw [Hv.out]; rfl, hb⟩
  · have hne : ps.length ≠ 0 := fun e => h0 (List.eq_nil_of_length_eq_zero e)
    have hv := bitsOf_val hn h0 (by omega)
    obtain ⟨b, off, rfl, hbB, hcell⟩ := hrd (by intro e; have := u32s_length ps; rw [e] at this; simp at this; omega)
    obtain ⟨k, hk⟩ : ∃ k, ps.length = k + 1 := ⟨ps.length - 1, by omega⟩
    have hcl := hcell k _ (u32s_at (by omega))
    have hx := hn.1.at_ k (by omega)
    have hv2 : bitsOf (val 4294967296 xs) = 32 * k + bitsOf (ps[k]) := by rw [hv]; simp [hk]
    obtain ⟨x, hxe⟩ : ∃ x, x = ps[k] := ⟨_, rfl⟩
    rw [← hxe] at hcl hx hv2
    have hkb : k < 70368744177664 := by omega
    have Hv2 := Lib.hid hv2
    have t0 : (((k : Int) + 1) == 0) = false := by simp; omega
    rw [hk]
    clear hv hv2 hn hcell hxe h0 hne hk hres hrd hps
    go_wp2
    go_loop [3, 4] (fun nv xv => ∃ (i y : Nat), nv = .int .i64 (32 * (k : Int) + (i : Int)) ∧ xv = .int .u32 (y : Int) ∧ y ≤ x ∧ i + bitsOf y = bitsOf x ∧ i ≤ 32) (fun _ xv => (intOf xv).toNat)
    case atStart => exact ⟨0, x, by go_num, rfl, Nat.le_refl _, by omega, by omega⟩
    case round =>
      obtain ⟨i, y, rfl, rfl, hyx, hiy, hi⟩ := hrel
      have hx32 : bitsOf x ≤ 32 := by rw [← bitLen_val _ (by omega)]; exact Lib.bitLen_le _ 32 (by omega) hx
      rcases Nat.eq_zero_or_pos y with h0 | h0
      · subst h0
        have hie : i = bitsOf x := by simpa [bitsOf] using hiy
        have Hie := Lib.hid hie
        clear hiy hie hx32
        go_wp2
        go_ret
        refine ⟨?_, hb⟩
        rw [Hv2.out, ← Hie.out]
        simp
      · have hh := bitsOf_half y h0
        have hiy2 : i + 1 + bitsOf (y / 2) = bitsOf x := by omega
        have hi2 : i + 1 ≤ 32 := by omega
        have Hiy2 := Lib.hid hiy2
        clear hiy hh hiy2
        go_wp2
        go_round
        case rel => exact ⟨i + 1, y / 2, by go_num, by go_num, by omega, Hiy2.out, hi2⟩
        case measure => simp [intOf]; omega
end Go.Proofs.YtogkfpbapjjgfaaDoor
