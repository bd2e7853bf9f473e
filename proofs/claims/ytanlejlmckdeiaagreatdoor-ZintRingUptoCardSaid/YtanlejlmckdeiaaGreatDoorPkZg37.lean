/- zint.Bezout for any two numbers; its sum; bounds of what it answers. Conditions: at most 2^20 limbs each. A region of a function's code, taken out of it by its number. No conditions. -/
import Derived.Test.YtanlejlmckdeiaaGreatDoorPkZg36
import Derived.Test.YtanlejlmckdeiaaGreatDoorPkZg32
namespace Go.Proofs.YtanlejlmckdeiaaGreatDoor
section
open Go.RowKit

theorem bezq_nought (z : Int) : BezIs z 0 (z.natAbs : Int) z.sign 0 := ⟨by rw [Int.gcd_zero_right], by rw [if_pos rfl]; exact ⟨rfl, rfl⟩⟩
theorem bez_sum {z y G X Y : Int} (h : BezIs z y G X Y) : z * X + y * Y = G := by
  obtain ⟨h1, h2⟩ := h
  by_cases hy : y = 0
  · rw [if_pos hy] at h2
    obtain ⟨rfl, rfl⟩ := h2
    subst hy
    rw [h1, Int.gcd_zero_right, Int.mul_zero, Int.add_zero]
    exact Int.mul_sign_self z
  · rw [if_neg hy] at h2
    exact h2.2.2
theorem bez_lt {z y G X Y : Int} {N : Nat} (h : BezIs z y G X Y) (hz : z.natAbs < 4294967296 ^ N) (hy : y.natAbs < 4294967296 ^ N) (hN : 1 ≤ N) : G.natAbs < 4294967296 ^ N ∧ X.natAbs < 4294967296 ^ N ∧ Y.natAbs < 4294967296 ^ (max N (N + N) + 1) := by
  have hs := bez_sum h
  obtain ⟨h1, h2⟩ := h
  have p1 : 4294967296 ^ 1 ≤ 4294967296 ^ N := Nat.pow_le_pow_right (by omega) hN
  rw [Nat.pow_one] at p1
  by_cases h0 : y = 0
  · rw [if_pos h0] at h2
    obtain ⟨rfl, rfl⟩ := h2
    subst h0
    rw [Int.gcd_zero_right] at h1
    refine ⟨by rw [h1]; omega, ?_, Nat.pow_pos (by omega)⟩
    rcases sign_cases z with ⟨a, b⟩ | ⟨a, b⟩ | ⟨a, b⟩ <;> rw [b] <;> omega
  · rw [if_neg h0] at h2
    obtain ⟨x0, x1, x2⟩ := h2
    have g0 : 0 < G := by have := Int.gcd_pos_of_ne_zero_right z h0; omega
    have g1 : G.natAbs ≤ y.natAbs := by rw [h1, Int.natAbs_natCast]; exact Nat.le_of_dvd (by omega) (Int.gcd_dvd_natAbs_right z y)
    have x3 : X ≤ X * G := by
      have := Int.mul_le_mul_of_nonneg_left (show (1 : Int) ≤ G by omega) x0
      rwa [Int.mul_one] at this
    have xl : X.natAbs < 4294967296 ^ N := by omega
    have gl : G.natAbs < 4294967296 ^ N := by omega
    refine ⟨gl, xl, ?_⟩
    have e : y * Y = G - z * X := by omega
    have e2 : Y.natAbs ≤ (y * Y).natAbs := by rw [Int.natAbs_mul]; exact Nat.le_mul_of_pos_left _ (by omega)
    rw [e] at e2
    exact Nat.lt_of_le_of_lt e2 (zdiff_lt (by omega) gl (zprod_lt hz xl))
section
variable {w : World} {g g2 : Bool} {A A2 : Option Addr} {c c2 N : Nat} {xs ys : List Nat} {z y : Int}
theorem bezoutq_any (h : Zh w g A c xs z N) (h2 : Zh w g2 A2 c2 ys y N) (hN : N ≤ 1048576) (hN1 : 1 ≤ N) :
    Calls Tryz.prog 26 #[.agg #[.bool g, .slice A xs.length c], .agg #[.bool g2, .slice A2 ys.length c2]] w fun e w' => ∃ G X Y : Int, BezIs z y G X Y ∧ ZBZ w w' G X Y e := by
  by_cases hy : y = 0
  · subst hy
    exact (bezout_nought h h2 hN hN1).mono fun e w' k => ⟨_, _, _, bezq_nought z, k⟩
  · exact bezout_other h h2 hy hN hN1
end
/-- The row that a call of two numbers makes. -/
theorem gcd_two (a b : ZE1) : gcdTo [a, b] 2 = Nat.gcd a.z.natAbs b.z.natAbs := by
  simp [gcdTo]
theorem lcm_two (a b : ZE1) : gcdTo [a, b] 2 * lcmTo [a, b] 2 = a.z.natAbs * b.z.natAbs := by
  rw [gcd_two]
  simp only [lcmTo, List.take_succ_cons, List.take_zero, List.foldl_cons, List.foldl_nil, Nat.one_mul, Nat.gcd_one_left, Nat.div_one]
  rcases Nat.eq_zero_or_pos (Nat.gcd a.z.natAbs b.z.natAbs) with h | h
  · rw [h, Nat.zero_mul, (Nat.gcd_eq_zero_iff.1 h).1, Nat.zero_mul]
  · rw [Nat.mul_left_comm, Nat.mul_div_cancel' (Nat.gcd_dvd_right _ _)]
theorem lcm_le (a b : ZE1) : ∀ k, k ≤ 2 → lcmTo [a, b] k ≤ max 1 (max a.z.natAbs (a.z.natAbs * b.z.natAbs)) := by
  intro k hk
  have : k = 0 ∨ k = 1 ∨ k = 2 := by omega
  rcases this with rfl | rfl | rfl
  · simp [lcmTo]; omega
  · simp [lcmTo]; omega
  · have e : lcmTo [a, b] 2 = a.z.natAbs * (b.z.natAbs / Nat.gcd a.z.natAbs b.z.natAbs) := by simp [lcmTo]
    rw [e]
    have := Nat.mul_le_mul_left a.z.natAbs (Nat.div_le_self b.z.natAbs (Nat.gcd a.z.natAbs b.z.natAbs))
    omega
section
variable {w W : World} {g g2 : Bool} {A A2 : Option Addr} {c c2 N : Nat} {xs ys : List Nat} {z y : Int}
theorem zl_two (h : Zh w g A c xs z N) (h2 : Zh w g2 A2 c2 ys y N) (hW : W = w.alloc (.cells #[.bool g, .slice A xs.length c, .bool g2, .slice A2 ys.length c2] 28)) :
    ZL W N (some ⟨w.heap.size, 0, none⟩) [⟨g, A, c, xs, z⟩, ⟨g2, A2, c2, ys, y⟩] := by
  subst hW
  have hb : Blk (w.alloc (.cells #[.bool g, .slice A xs.length c, .bool g2, .slice A2 ys.length c2] 28)) w.heap.size 28 [.bool g, .slice A xs.length c, .bool g2, .slice A2 ys.length c2] := Blk.new_ rfl
  have k := bel_one w (.cells #[.bool g, .slice A xs.length c, .bool g2, .slice A2 ys.length c2] 28)
  intro j hj
  have hj2 : j < 2 := hj
  have : j = 0 ∨ j = 1 := by omega
  rcases this with rfl | rfl
  · exact ⟨w.heap.size, 0, rfl, hb.lt, hb.cell 0, hb.cell 1, h.next k⟩
  · exact ⟨w.heap.size, 0, rfl, hb.lt, hb.cell 2, hb.cell 3, h2.next k⟩
theorem zgcd_two {b : Nat} {e1 e2 : ZE1} (h : ZL w N (some ⟨b, 0, none⟩) [e1, e2]) (hN : N ≤ 1048576) (hT : Tab64 w) (hTB : 0 < w.heap.size) :
    Calls Tryz.prog 8 #[.slice (some ⟨b, 0, none⟩) 2 2] w fun e w' => ZOut w w' ((gcdTo [e1, e2] 2 : Nat) : Int) e := zgcd_any [e1, e2] h (by omega) (by simp) hT hTB
theorem lcm_lt {e1 e2 : ZE1} (h : e1.z.natAbs < 4294967296 ^ N) (h2 : e2.z.natAbs < 4294967296 ^ N) : ∀ k, k ≤ 2 → lcmTo [e1, e2] k < 4294967296 ^ (N + N + 1) := by
  intro k hk
  have h1 := lcm_le e1 e2 k hk
  have p := prod_lt_pow9 h h2
  have q : 4294967296 ^ (N + N) * 4294967296 = 4294967296 ^ (N + N + 1) := (Nat.pow_succ ..).symm
  have q1 : 0 < 4294967296 ^ (N + N) := Nat.pow_pos (by omega)
  have q2 : 4294967296 ^ N ≤ 4294967296 ^ (N + N) := Nat.pow_le_pow_right (by omega) (by omega)
  omega
theorem zlcm_two {b : Nat} {e1 e2 : ZE1} (h : ZL w N (some ⟨b, 0, none⟩) [e1, e2]) (hN : N ≤ 1048576) (h1 : e1.z.natAbs < 4294967296 ^ N) (h2 : e2.z.natAbs < 4294967296 ^ N) (hT : Tab64 w) (hTB : 0 < w.heap.size) :
    Calls Tryz.prog 10 #[.slice (some ⟨b, 0, none⟩) 2 2] w fun e w' => ZOut w w' ((lcmTo [e1, e2] 2 : Nat) : Int) e := zlcm_any (K := N) (M := N + N + 1) [e1, e2] h (by omega) (by omega) (fun k hk => lcm_lt h1 h2 k hk) (by simp) hT hTB
theorem gcd_two_lt {e1 e2 : ZE1} (h : e1.z.natAbs < 4294967296 ^ N) (h2 : e2.z.natAbs < 4294967296 ^ N) : gcdTo [e1, e2] 2 < 4294967296 ^ N := by
  rw [gcd_two]
  rcases Nat.eq_zero_or_pos e1.z.natAbs with h0 | h0
  · rw [h0, Nat.gcd_zero_left]; exact h2
  · exact Nat.lt_of_le_of_lt (Nat.gcd_le_left _ h0) h
end
end
section
open Go

/-- The region of a number in a code. -/
def findReg (n : Nat) : Code → Option Code
  | .region id ops d => if id = n then some (.region id ops d) else none
  | .seq a b => match findReg n a with
    | some c => some c
    | none => findReg n b
  | .block _ c => findReg n c
  | .scope c => findReg n c
  | .loop c => findReg n c
  | .cond _ a b => match findReg n a with
    | some c => some c
    | none => findReg n b
  | _ => none
noncomputable def ringR (n : Nat) : Code := ((Tryz.f5.body.bind (findReg n)).getD .skip)
end
end Go.Proofs.YtanlejlmckdeiaaGreatDoor
