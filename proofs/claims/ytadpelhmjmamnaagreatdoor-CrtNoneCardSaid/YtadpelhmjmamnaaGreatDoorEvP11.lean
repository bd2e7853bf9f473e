/- The reckoner: operations on two values. No conditions. -/
import Derived.Test.YtadpelhmjmamnaaGreatDoorEvP10
namespace Go.Proofs.YtadpelhmjmamnaaGreatDoor.Ev
open Go Go.RowKit

theorem kindEq_eq {j k : IntKind} (h : kindEq j k = true) : j = k := by cases j <;> cases k <;> first | rfl | cases h
section
variable {P : Program} {w : World}
theorem eqGuard_int (op : BinOp) (t : TypeId) (x y : Operand) (j k : IntKind) (a b : Int) : (eqGuard op t x y (.int j a) (.int k b)).run P w = .ok () w := by
  cases op <;> rfl
theorem blt_spec {m n : Nat} (h : Nat.blt m n = true) : m < n := by simp [Nat.blt, Nat.ble_eq] at h; omega
theorem fastBin_run {op : BinOp} {t : TypeId} {k : IntKind} {a b : Int} {r : Value} (h : fastBin op k a b = some r) : (binOp op t (.int k a) (.int k b)).run P w = .ok r w := by
  cases op <;> simp only [fastBin] at h
  case add => cases h; simp [binOp, Op.intArith, wrapF_eq] <;> rfl
  case sub => cases h; simp [binOp, Op.intArith, wrapF_eq] <;> rfl
  case mul => cases h; simp [binOp, Op.intArith, wrapF_eq] <;> rfl
  case lss => cases h; simp [binOp, Op.intCmp, ltF_eq]
  case gtr => cases h; simp [binOp, Op.intCmp, ltF_eq]
  case leq => cases h; have : decide (a ≤ b) = !decide (b < a) := (by rw [Bool.eq_iff_iff]; simp); simp [binOp, Op.intCmp, ltF_eq, this]
  case geq => cases h; have : decide (b ≤ a) = !decide (a < b) := (by rw [Bool.eq_iff_iff]; simp); simp [binOp, Op.intCmp, ltF_eq, this]
  case eql => cases h; simp [binOp, Op.intCmp, eqF_eq]
  case neq => cases h; simp [binOp, Op.intCmp, eqF_eq]; rfl
  case quo =>
    split at h
    · cases h
      rename_i m n
      have hne : ¬ ((Int.ofNat (n + 1)) = 0) := by rw [Int.ofNat_eq_natCast]; omega
      simp only [binOp, Op.intDiv, ne_eq, not_true_eq_false, if_false, wrapF_eq]
      rw [if_neg hne]
      rfl
    · cases h
  case rem =>
    split at h
    · cases h
      rename_i m n
      have hne : ¬ ((Int.ofNat (n + 1)) = 0) := by rw [Int.ofNat_eq_natCast]; omega
      simp only [binOp, Op.intDiv, ne_eq, not_true_eq_false, if_false]
      rw [if_neg hne]
      rfl
    · cases h
  case and =>
    split at h
    · rename_i m n
      cases hc : (Nat.blt m (topN k) && Nat.blt n (topN k)) with
      | false => rw [hc] at h; cases h
      | true =>
        rw [hc] at h; cases h
        rw [Bool.and_eq_true] at hc
        have := bits_and (k := k) Nat.land (fun x y => x &&& y) (fun x y => BitVec.toNat_and x y) (blt_spec hc.1) (blt_spec hc.2) (fun h1 _ => Nat.and_lt_two_pow _ ‹_›)
        simp only [binOp, Op.intBits, ne_eq, not_true_eq_false, if_false, Int.ofNat_eq_natCast]
        rw [this]; rfl
    · cases h
  case or =>
    split at h
    · rename_i m n
      cases hc : (Nat.blt m (topN k) && Nat.blt n (topN k)) with
      | false => rw [hc] at h; cases h
      | true =>
        rw [hc] at h; cases h
        rw [Bool.and_eq_true] at hc
        have := bits_and (k := k) Nat.lor (fun x y => x ||| y) (fun x y => BitVec.toNat_or x y) (blt_spec hc.1) (blt_spec hc.2) (fun h1 h2 => Nat.or_lt_two_pow h1 h2)
        simp only [binOp, Op.intBits, ne_eq, not_true_eq_false, if_false, Int.ofNat_eq_natCast]
        rw [this]; rfl
    · cases h
  case xor =>
    split at h
    · rename_i m n
      cases hc : (Nat.blt m (topN k) && Nat.blt n (topN k)) with
      | false => rw [hc] at h; cases h
      | true =>
        rw [hc] at h; cases h
        rw [Bool.and_eq_true] at hc
        have := bits_and (k := k) Nat.xor (fun x y => x ^^^ y) (fun x y => BitVec.toNat_xor x y) (blt_spec hc.1) (blt_spec hc.2) (fun h1 h2 => Nat.xor_lt_two_pow h1 h2)
        simp only [binOp, Op.intBits, ne_eq, not_true_eq_false, if_false, Int.ofNat_eq_natCast]
        rw [this]; rfl
    · cases h
  all_goals cases h
theorem fastSh_run {op : BinOp} {t : TypeId} {j k : IntKind} {a b : Int} {r : Value} (h : fastSh op j a b = some r) : (binOp op t (.int j a) (.int k b)).run P w = .ok r w := by
  unfold fastSh at h
  split at h
  · rename_i m n
    cases hn : Nat.ble n 64 with
    | false => rw [hn] at h; cases h
    | true =>
      rw [hn] at h
      simp only [cond_true] at h
      split at h
      · cases hb : Nat.ble n j.bits with
        | false => rw [hb] at h; cases h
        | true =>
          rw [hb] at h; cases h
          have hb := Nat.le_of_ble_eq_true hb
          have h0 : ¬ ((Int.ofNat n) < 0) := by simp
          simp only [binOp, Op.shift, if_neg h0]
          have : min (Int.ofNat n).toNat j.bits = n := by simp; omega
          rw [this]
          simp only [Sem.run_pure]
          congr 3
      · cases hb : Nat.ble n j.bits with
        | false => rw [hb] at h; cases h
        | true =>
          rw [hb] at h; cases h
          have hb := Nat.le_of_ble_eq_true hb
          have h0 : ¬ ((Int.ofNat n) < 0) := by simp
          simp only [binOp, Op.shift, if_neg h0]
          have : min (Int.ofNat n).toNat j.bits = n := by simp; omega
          rw [this]
          simp only [Sem.run_pure]
          have e : (Int.ofNat m).fdiv (2 ^ n) = Int.ofNat (m.div (Nat.pow 2 n)) := by
            rw [show (2 : Int) ^ n = ((2 ^ n : Nat) : Int) by simp]
            exact (Int.ofNat_fdiv m (2 ^ n)).symm
          rw [e]
      · cases h
  · cases h
theorem nilEq_run {t : TypeId} {x y : Value} {b : Bool} (h : nilEq (P.underlying t) x y = some b) (n : Nat) : (Op.equalIn (n + 1) t x y).run P w = .ok b w := by
  unfold nilEq at h
  simp only [Op.equalIn, underlying, Sem.run_bind, run_program, Result.andThen_ok]
  split at h <;> first | (cases h; done) | (rename_i hu; cases h; rw [hu]; rfl)
end
end Go.Proofs.YtadpelhmjmamnaaGreatDoor.Ev
