/- The contracts of addInto and takeFrom. Conditions: fewer words than any slice can have. Plain algebra: a transform by halves and back over any commutative ring. No conditions. Plain algebra: products of digit lists by a transform modulo 2^64 - 2^32 + 1. No conditions. The contracts of the field modulo 2^64 - 2^32 + 1: reduced, fieldAdd, fieldSub, fieldMul, fieldPow. Conditions: the arguments are words. The contracts of fieldPow and rootsOf. Conditions: the arguments are below the field's prime; sizes are even. The contract of digitsOf. Conditions: the places suffice. The contracts of sumOf and longProduct. Conditions: fewer words than any slice can have. -/
import Derived.Test.YtbafiahmcfkboaaDoorPkHo21
import Derived.Laws.CopyOwn
namespace Go.Proofs.YtbafiahmcfkboaaDoor
section
open Go.RowKit
end
section
section Ring
variable {z9 : Nat} [NeZero z9]

def sm (f : Nat → Fin z9) : Nat → Fin z9
  | 0 => 0
  | n + 1 => sm f n + f n

end Ring
end
section
section Poly
variable {z9 : Nat} [NeZero z9]
end Poly

abbrev FP := Fin 18446744069414584321
def ph (a : Nat) : FP := Fin.ofNat _ a
section Final
variable {z9 : Nat} [NeZero z9]
end Final

/-- The list's places as elements of the field. -/
def fl (xs : List Nat) : Nat → FP := fun i => ph (xs.getD i 0)
end
section
open Go.RowKit
end
section
open Go.RowKit
end
section
open Go.RowKit

def dig4 (x : Nat) : List Nat := [x % 65536, x / 65536 % 65536, x / 4294967296 % 65536, x / 281474976710656 % 65536]
def digs : List Nat → List Nat
  | [] => []
  | x :: xs => dig4 x ++ digs xs
theorem digs_length (xs : List Nat) : (digs xs).length = 4 * xs.length := by
  induction xs with
  | nil => rfl
  | cons x xs ih => simp only [digs, List.length_append, ih, List.length_cons]; simp [dig4]; omega
theorem digs_append (xs ys : List Nat) : digs (xs ++ ys) = digs xs ++ digs ys := by
  induction xs with
  | nil => rfl
  | cons x xs ih => simp only [List.cons_append, digs, ih, List.append_assoc]
theorem set_end (A : List Nat) (m v : Nat) : (A ++ List.replicate (m + 1) 0).set A.length v = (A ++ [v]) ++ List.replicate m 0 := by
  rw [List.set_append_right _ _ (Nat.le_refl _), Nat.sub_self, List.replicate_succ, List.append_assoc]; rfl

/-- digitsOf's row behind k words and j digits more of x. -/
def DigRow (us : List Nat) (n k j x : Nat) : List Nat := digs (us.take k) ++ (dig4 x).take j ++ List.replicate (n - 4 * k - j) 0
theorem DigRow.length {us : List Nat} {n k j x : Nat} (hk : k ≤ us.length) (hj : j ≤ 4) (hn : 4 * k + j ≤ n) : (DigRow us n k j x).length = n := by
  unfold DigRow
  rw [List.length_append, List.length_append, digs_length, List.length_take, List.length_take, List.length_replicate]
  simp [dig4]; omega
theorem DigRow.step {us : List Nat} {n k j x d : Nat} (hk : k ≤ us.length) (hj : j < 4) (hn : 4 * k + j < n) (hd : (dig4 x)[j]? = some d) : (DigRow us n k j x).set (4 * k + j) d = DigRow us n k (j + 1) x := by
  unfold DigRow
  have hl : (digs (us.take k) ++ (dig4 x).take j).length = 4 * k + j := by
    rw [List.length_append, digs_length, List.length_take, List.length_take]
    simp [dig4]; omega
  have e1 : n - 4 * k - j = (n - 4 * k - (j + 1)) + 1 := by omega
  rw [e1, ← hl, set_end]
  congr 1
  rw [List.append_assoc]
  congr 1
  have hj4 : j < (dig4 x).length := hj
  rw [List.getElem?_eq_getElem hj4] at hd
  rw [← Option.some.inj hd]
  exact (List.take_succ_eq_append_getElem hj4).symm
theorem DigRow.next {us : List Nat} {n k : Nat} (hk : k < us.length) (hn : 4 * k + 4 ≤ n) : DigRow us n k 4 us[k] = DigRow us n (k + 1) 0 0 := by
  unfold DigRow
  rw [List.take_succ_eq_append_getElem hk, digs_append]
  simp only [digs, List.append_nil, List.take_zero]
  rw [show n - 4 * k - 4 = n - 4 * (k + 1) - 0 from by omega]
  rfl
theorem DigRow.start (us : List Nat) (n : Nat) : DigRow us n 0 0 0 = List.replicate n 0 := by simp [DigRow, digs]
theorem DigRow.zero (us : List Nat) (n k x : Nat) : DigRow us n k 0 x = DigRow us n k 0 0 := by simp [DigRow]
end
section
open Go.RowKit

theorem sum_lt {b n x y : Nat} (hb : 2 ≤ b) (hx : x < b ^ n) (hy : y < b ^ n) : x + y < b ^ (n + 1) := by
  rw [Nat.pow_succ]
  have : b ^ n * 2 ≤ b ^ n * b := Nat.mul_le_mul_left _ hb
  omega
theorem val_lt_le {b : Nat} {xs : List Nat} {n : Nat} (h : Dig b xs) (hl : xs.length ≤ n) (hb : 0 < b) : val b xs < b ^ n :=
  Nat.lt_of_lt_of_le (val_lt b xs h) (Nat.pow_le_pow_right hb hl)
theorem carry_zero {b n v q X : Nat} (h : v + b ^ n * q = X) (hX : X < b ^ n) : q = 0 := by
  rcases Nat.eq_zero_or_pos q with h0 | h0
  · exact h0
  · have : b ^ n * 1 ≤ b ^ n * q := Nat.mul_le_mul_left _ h0
    omega
theorem carry_zero2 {b n v q X : Nat} (h : v + b ^ n * q = X) (hX : X < b ^ n) : v = X := by
  rw [carry_zero h hX] at h; simpa using h
/-- A row of words of its own, of so many places, that makes n. -/
def Words (w w' : World) (len n : Nat) (e : Ending) : Prop :=
  ∃ zs g, e = .returned (.slice (some ⟨g, 0, none⟩) zs.length zs.length) ∧ zs.length = len ∧ Dig 18446744073709551616 zs ∧ val 18446744073709551616 zs = n ∧ w.heap.size ≤ g ∧ Blk w' g 54 (u64s zs) ∧ Below w.heap.size w w'
end
end Go.Proofs.YtbafiahmcfkboaaDoor
