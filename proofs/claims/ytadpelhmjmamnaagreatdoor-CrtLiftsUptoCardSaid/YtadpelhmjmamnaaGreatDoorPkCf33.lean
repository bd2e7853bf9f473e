/- The contract of the reference's Left. The numbers behind the greatest common divisor. No conditions of its own. The contract of the reference's Gcd. Conditions: limbs; at most 2^28 of them. The contracts of the reference's Norm, Of, Sign, Neg, Abs, Mul, Gcd on integers. Conditions: at most 2^26 limbs. -/
import Derived.Test.YtadpelhmjmamnaaGreatDoorPkCf32
import Derived.Test.YtadpelhmjmamnaaGreatDoorPkCf21
import Derived.Deep.RegionLaw
import Derived.Deep.RegionHeld3
import Derived.Deep.DeepCutAuto
import Derived.Test.YtadpelhmjmamnaaGreatDoorPkCf28
import Derived.Shelf.Spec.TrailingZeros
import Derived.Deep.LoopGhost
import Derived.Test.YtadpelhmjmamnaaGreatDoorPkCf31
namespace Go.Proofs.YtadpelhmjmamnaaGreatDoor
section
open Go.RowKit
end
section
open Go.RowKit

/-- The two numbers between two of Euclid's steps by the top words. -/
structure Leh (e : Bool) (x0 y0 x y u1 u2 v1 v2 : Nat) : Prop where
  le : y ≤ x
  comb : x0 = v2 * x + v1 * y
  uv : u2 ≤ v2
  sum : u1 + u2 ≤ v1 + v2
  v2p : 1 ≤ v2
  idx : if e then x + u1 * x0 = v1 * y0 else x + v1 * y0 = u1 * x0
  idy : if e then y + v2 * y0 = u2 * x0 else y + u2 * x0 = v2 * y0
  det : if e then u2 * v1 = u1 * v2 + 1 else u1 * v2 = u2 * v1 + 1
theorem Leh.start {x0 y0 : Nat} (h : y0 ≤ x0) : Leh false x0 y0 x0 y0 1 0 0 1 :=
  ⟨h, by omega, by omega, by omega, by omega, by simp, by simp, by simp⟩
theorem Leh.next {e : Bool} {x0 y0 x y u1 u2 v1 v2 : Nat} (h : Leh e x0 y0 x y u1 u2 v1 v2) (g1 : v2 ≤ y) : Leh (!e) x0 y0 y (x % y) u2 (u1 + x / y * u2) v2 (v1 + x / y * v2) := by
  have hy : 0 < y := Nat.lt_of_lt_of_le h.v2p g1
  have hq : 1 ≤ x / y := (Nat.le_div_iff_mul_le hy).2 (by rw [Nat.one_mul]; exact h.le)
  have hm := Nat.div_add_mod x y
  obtain ⟨le, comb, uv, sum, v2p, idx, idy, det⟩ := h
  generalize x / y = q at *
  obtain ⟨r, hr⟩ : ∃ r, r = x % y := ⟨_, rfl⟩
  have hrl : r < y := by rw [hr]; exact Nat.mod_lt _ hy
  rw [← hr] at hm ⊢
  clear hr
  obtain ⟨p, rfl⟩ : ∃ p, q = p + 1 := ⟨q - 1, by omega⟩
  have hpuv : p * u2 ≤ p * v2 := Nat.mul_le_mul_left _ uv
  refine ⟨Nat.le_of_lt hrl, ?_, ?_, ?_, ?_, ?_, ?_, ?_⟩
  · subst hm; grind
  · rw [Nat.add_mul, Nat.add_mul]; omega
  · rw [Nat.add_mul, Nat.add_mul]; omega
  · rw [Nat.add_mul]; omega
  · cases e <;> simp only [Bool.not_true, Bool.not_false, if_true, Bool.false_eq_true, if_false] at idy ⊢ <;> exact idy
  · subst hm
    cases e <;> simp only [Bool.not_true, Bool.not_false, if_true, Bool.false_eq_true, if_false] at idx idy ⊢ <;> grind
  · cases e <;> simp only [Bool.not_true, Bool.not_false, if_true, Bool.false_eq_true, if_false] at det ⊢ <;> grind
end
section
open Go.RowKit

/-- A number of the reference's. -/
def Lv (w : World) (A : Option Addr) (ps : List Nat) (p LL : Nat) : Prop := Num 4294967296 ps p ∧ Rd w w.heap.size A (u32s ps) ∧ p < 4294967296 ^ LL
section
variable {w w' : World} {A : Option Addr} {ps : List Nat} {p LL : Nat}
theorem Lv.next (h : Lv w A ps p LL) (hb : Below w.heap.size w w') : Lv w' A ps p LL := ⟨h.1, (h.2.1.below hb).mono hb.size, h.2.2⟩
theorem Lv.len (h : Lv w A ps p LL) : ps.length ≤ LL := by
  have := trimL_len_le (b := 4294967296) (by omega) h.1.1 (by rw [h.1.2.2]; exact h.2.2)
  rwa [h.1.2.1] at this
theorem Lv.pos (h : Lv w A ps p LL) (h0 : 0 < p) : 0 < ps.length := by
  refine List.length_pos_iff.2 (fun e => ?_)
  have := (h.1.nil_iff (by omega)).1 e
  omega
theorem Lv.zero (h : Lv w A ps p LL) (h0 : p = 0) : ps = [] := (h.1.nil_iff (by omega)).2 h0
theorem Lv.cell (h : Lv w A ps p LL) (h0 : 0 < p) : ∃ b off x, A = some ⟨b, off, none⟩ ∧ w.cell? ⟨b, off, none⟩ = some (.int .u32 (x : Nat)) ∧ x % 2 = p % 2 ∧ x < 4294967296 := by
  have hl := h.pos h0
  obtain ⟨b, off, rfl, hb, hc⟩ := h.2.1 (by intro e; have := congrArg List.length e; rw [u32s_length] at this; simp at this; rw [this] at hl; simp at hl)
  have h1 := hc 0 _ (u32s_at hl)
  refine ⟨b, off, ps[0], rfl, h1, ?_, h.1.1.at_ 0 hl⟩
  have hv := h.1.2.2
  obtain ⟨y, ys, rfl⟩ : ∃ y ys, ps = y :: ys := by
    cases ps with
    | nil => simp at hl
    | cons y ys => exact ⟨y, ys, rfl⟩
  rw [← hv]
  simp only [val, List.getElem_cons_zero]
  omega
end
end
section
open Go.RowKit

section
variable {w w' : World} {g g2 : Bool} {A A2 : Option Addr} {c c2 K J : Nat} {xs ys : List Nat} {z y : Int}
set_option maxHeartbeats 1600000 in
theorem Zh.rnorm (h : Zh w g A c xs z K) (hK : K ≤ 67108864) :
    Calls Tryz.prog 45 #[.agg #[.bool g, .slice A xs.length c]] w fun e w' => ZOut w w' z e := by
  have N1 : Hid (∀ W (_ : Below w.heap.size w W), Calls Tryz.prog 65 #[.slice A xs.length c] W fun e w' => NOut W w' z.natAbs e) := fun W hW => (h.hv.next hW).rnorm hK
  have hs := h.sg
  have Hs := Lib.hid hs
  have k0 := bel_two w (.cells #[.bool g, .slice A xs.length c] 37) (.cells #[.bool false, .slice none 0 0] 37)
  have b0 := (Blk.new_ (w := w) (t := 37) (cs := #[.bool g, .slice A xs.length c]) (vs := [.bool g, .slice A xs.length c]) rfl).heapAlloc (.cells #[.bool false, .slice none 0 0] 37)
  have b1 := blk_res1 w (.cells #[.bool g, .slice A xs.length c] 37) (.bool false) (.slice none 0 0)
  clear h hs
  cases g
  · have e9 : (false : Bool) = isNeg z := by rw [← Hs.out]; rw [isNeg_ival]; rfl
    have E9 := Lib.hid e9
    clear e9
    go_enter Tryz.func45, Tryz.ntmps45
    go_wp2_with fail
    refine (N1.out _ k0).mono ?_
    rintro e w1 ⟨zs, A', c', rfl, hz, hr, hb⟩
    have hsz := k0.size
    have k1 := bst k0 hb (Nat.le_refl _)
    replace b0 := b0.below hb b0.lt
    replace b1 := b1.below hb b1.lt
    obtain ⟨p0, p1, p2, p3⟩ := b0.two
    obtain ⟨q0, q1, q2, q3⟩ := b1.two
    go_wp2_with fail
    exact zretF k1 b1 (by omega) hz (hr.mono hsz) (Nat.le_refl _) (fun hn a e => by
      obtain ⟨b, rest, e2, hb9, _, _⟩ := hr.2.2 (by intro e3; apply hn; have := u32s_length zs; rw [e3] at this; exact List.eq_nil_of_length_eq_zero this.symm)
      rw [e2] at e; cases e
      have : w.heap.size + 1 + 1 ≤ b := by simpa using hb9
      show b ≠ _; omega) E9.out rfl rfl rfl
  · go_enter Tryz.func45, Tryz.ntmps45
    go_wp2_with fail
    refine (N1.out _ k0).mono ?_
    rintro e w1 ⟨zs, A', c', rfl, hz, hr, hb⟩
    have e9 : decide (0 < zs.length) = isNeg z := by
      rw [num_pos hz, ← Hs.out, isNeg_ival, Hs.out, Bool.true_and]
    have E9 := Lib.hid e9
    clear e9
    have hsz := k0.size
    have hl9 := res_len hr
    have k1 := bst k0 hb (Nat.le_refl _)
    replace b0 := b0.below hb b0.lt
    replace b1 := b1.below hb b1.lt
    obtain ⟨p0, p1, p2, p3⟩ := b0.two
    obtain ⟨q0, q1, q2, q3⟩ := b1.two
    go_wp2_with fail
    exact zretF k1 b1 (by omega) hz (hr.mono hsz) (Nat.le_refl _) (fun hn a e => by
      obtain ⟨b, rest, e2, hb9, _, _⟩ := hr.2.2 (by intro e3; apply hn; have := u32s_length zs; rw [e3] at this; exact List.eq_nil_of_length_eq_zero this.symm)
      rw [e2] at e; cases e
      have : w.heap.size + 1 + 1 ≤ b := by simpa using hb9
      show b ≠ _; omega) E9.out rfl rfl rfl

theorem Zh.flip (h : Zh w g A c xs z K) : Zh w (!g) A c xs (-z) K :=
  ⟨⟨h.hv.dig, by rw [Int.natAbs_neg]; exact h.hv.val_, h.hv.rd, h.hv.cap, h.hv.len⟩, by rw [Int.natAbs_neg, ← neg_ival, h.sg]⟩
set_option maxHeartbeats 800000 in
theorem Zh.rneg (h : Zh w g A c xs z K) (hK : K ≤ 67108864) :
    Calls Tryz.prog 85 #[.agg #[.bool g, .slice A xs.length c]] w fun e w' => ZOut w w' (-z) e := by
  have N1 : Hid (∀ W (_ : Below w.heap.size w W), Calls Tryz.prog 45 #[.agg #[.bool (!g), .slice A xs.length c]] W fun e w' => ZOut W w' (-z) e) := fun W hW => (h.next hW).flip.rnorm hK
  have k0 := bel_two w (.cells #[.bool g, .slice A xs.length c] 37) (.cells #[.bool false, .slice none 0 0] 37)
  have b1 := blk_res1 w (.cells #[.bool g, .slice A xs.length c] 37) (.bool false) (.slice none 0 0)
  clear h
  go_enter Tryz.func85, Tryz.ntmps85
  go_wp2_with fail
  refine (N1.out _ k0).mono ?_
  rintro e w1 ⟨zs, A', c', rfl, hz, hr, hb⟩
  have hsz := k0.size
  have k1 := bst k0 hb (Nat.le_refl _)
  replace b1 := b1.below hb b1.lt
  obtain ⟨q0, q1, q2, q3⟩ := b1.two
  go_wp2_with fail
  exact zretT k1 b1 (by omega) hz (hr.mono hsz) rfl rfl rfl rfl
set_option maxHeartbeats 800000 in
theorem Zh.rsign (h : Zh w g A c xs z K) (hK : K ≤ 67108864) : Calls Tryz.prog 52 #[.agg #[.bool g, .slice A xs.length c]] w fun e w' => e = .returned (.int .i64 z.sign) ∧ Below w.heap.size w w' := by
  have Z1 : Hid (∀ W (_ : Below w.heap.size w W), Calls Tryz.prog 95 #[.slice A xs.length c] W fun e w' => e = .returned (.bool (decide (z.natAbs = 0))) ∧ W = w') := fun W hW => (h.next hW).hv.rzero hK
  have hs := h.sg
  have hd : decide (z.natAbs = 0) = decide (z = 0) := decide_eq_decide.2 (by omega)
  rw [hd] at Z1
  clear h hd
  have b0 := blk_one w (.bool g) (.slice A xs.length c)
  by_cases h0 : z = 0
  · rw [decide_eq_true h0] at Z1
    rw [h0, show Int.sign 0 = 0 from rfl]
    clear hs h0
    go_enter Tryz.func52, Tryz.ntmps52
    go_wp2_with fail
    refine (Z1.out _ (bel_one _ _)).mono ?_
    rintro e w1 ⟨rfl, rfl⟩
    go_wp2_with fail
    go_ret
    exact ⟨rfl, bel_one _ _⟩
  · have h1 := isNeg_ival g z.natAbs
    rw [hs, show decide (0 < z.natAbs) = true from decide_eq_true (by omega), Bool.and_true] at h1
    rw [decide_eq_false h0] at Z1
    cases g
    · have e1 : z.sign = 1 := Int.sign_eq_one_of_pos (by simp [isNeg] at h1; omega)
      rw [e1]
      clear hs h0 h1 e1
      go_enter Tryz.func52, Tryz.ntmps52
      go_wp2_with fail
      refine (Z1.out _ (bel_one _ _)).mono ?_
      rintro e w1 ⟨rfl, rfl⟩
      go_wp2_with fail
      go_ret
      exact ⟨rfl, bel_one _ _⟩
    · have e1 : z.sign = -1 := Int.sign_eq_neg_one_of_neg (by simp [isNeg] at h1; omega)
      rw [e1]
      clear hs h0 h1 e1
      go_enter Tryz.func52, Tryz.ntmps52
      go_wp2_with fail
      refine (Z1.out _ (bel_one _ _)).mono ?_
      rintro e w1 ⟨rfl, rfl⟩
      go_wp2_with fail
      go_ret
      exact ⟨rfl, bel_one _ _⟩
end
end
end Go.Proofs.YtadpelhmjmamnaaGreatDoor
