/- Small laws of answers that are the same. Conditions: at most 2^20 limbs each; the table of the library as it is laid. -/
import Derived.Test.YtbcphifjcaobfaaGreatDoorPkRq38
namespace Go.Proofs.YtbcphifjcaobfaaGreatDoor
open Go.RowKit

section
variable {w : World} {B B2 B3 B4 : Nat} {a0 a1 a2 a3 b0 b1 b2 b3 : Value} {K N : Nat} {z y x v : Int} {q r : Rat}
theorem FN.qsame (h : FN w B3 a0 a1 a2 a3 q.num q.den) (h' : FN w B4 b0 b1 b2 b3 q.num q.den) (hq : QB q K) (hK : K ≤ 281474976710656) : Calls Tryz.prog 19 #[.agg #[a0, a1, a2, a3], .agg #[b0, b1, b2, b3]] w fun e w' => e = .returned (.bool true) ∧ Below w.heap.size w w' :=
  h.lsame h' hq.num (by rw [Int.natAbs_natCast]; exact hq.den) hK
theorem FN.nsame (h : FN w B3 a0 a1 a2 a3 0 0) : Calls Tryz.prog 19 #[.agg #[a0, a1, a2, a3], .agg #[.bool false, .slice none 0 0, .bool false, .slice none 0 0]] w fun e w' => e = .returned (.bool true) ∧ Below w.heap.size w w' :=
  h.lsame (B4 := 0) FN.zero (K := 1) (by decide) (by decide) (by decide)
theorem num_sign_ne (h : q ≠ 0) : (q.num.sign == 0) = false := beq_eq_false_iff_ne.2 (fun e => h (Rat.num_eq_zero.1 (Int.sign_eq_zero_iff_zero.1 e)))
theorem may_yes (h : FV B w a0 a1 a2 a3 z y K) (hd : decide (y ≠ 0) = true) (hK : K ≤ 67108864) : Calls Tryz.prog 16 #[.agg #[a0, a1, a2, a3]] w fun e w' => e = .returned (.bool true) ∧ Below w.heap.size w w' := by
  have := h.rmay hK
  rwa [hd] at this
theorem sgn_to {s t : Int} (h : Calls Tryz.prog 23 #[.agg #[a0, a1, a2, a3]] w fun e w' => e = .returned (.int .i64 s) ∧ Below w.heap.size w w') (e : t = s) : Calls Tryz.prog 23 #[.agg #[a0, a1, a2, a3]] w fun e w' => e = .returned (.int .i64 t) ∧ Below w.heap.size w w' := e ▸ h
theorem qb_quo {J : Nat} (h : QB q K) (h' : QB r J) (hr : r ≠ 0) : QB (q / r) (K + J) := by
  rw [Rat.div_def]; exact h.mul (h'.inv hr)
end
end Go.Proofs.YtbcphifjcaobfaaGreatDoor
