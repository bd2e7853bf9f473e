/- The places of the bits that are 1: plain mathematics. No conditions. -/
import Derived.Test.YtogkfpbapjjgfaaDoorRefA
import Derived.Lib.TrailingZeros
namespace Go.Proofs.YtogkfpbapjjgfaaDoor
open Go.RowKit

/-- The i-th bit of a number in limbs. -/
def bitAt (xs : List Nat) (i : Nat) : Nat := at0 xs (i / 32) / 2 ^ (i % 32) % 2
/-- How many ones. -/
def pop (n : Nat) : Nat := if h : n = 0 then 0 else n % 2 + pop (n / 2)
termination_by n
decreasing_by omega
def pops : List Nat → Nat
  | [] => 0
  | x :: xs => pop x + pops xs
theorem pop_zero : pop 0 = 0 := by rw [pop]; simp
theorem pop_rec (n : Nat) : pop n = n % 2 + pop (n / 2) := by
  by_cases h : n = 0
  · subst h; simp [pop_zero]
  · conv => lhs; rw [pop]
    simp [h]
theorem pop_double (n : Nat) : pop (2 * n) = pop n := by
  rw [pop_rec, show 2 * n % 2 = 0 from by omega, show 2 * n / 2 = n from by omega]; omega
theorem pop_odd (n : Nat) : pop (2 * n + 1) = pop n + 1 := by
  rw [pop_rec, show (2 * n + 1) % 2 = 1 from by omega, show (2 * n + 1) / 2 = n from by omega]; omega
theorem pop_shift (k n : Nat) : pop (2 ^ k * n) = pop n := by
  induction k with
  | zero => simp
  | succ k ih => rw [Nat.pow_succ, Nat.mul_comm (2 ^ k) 2, Nat.mul_assoc, pop_double, ih]
theorem pops_append (xs ys : List Nat) : pops (xs ++ ys) = pops xs + pops ys := by
  induction xs with
  | nil => simp [pops]
  | cons x xs ih => simp only [List.cons_append, pops, ih]; omega
theorem pops_take_succ (xs : List Nat) (k : Nat) (h : k < xs.length) : pops (xs.take (k + 1)) = pops (xs.take k) + pop xs[k] := by
  rw [List.take_succ_eq_append_getElem h, pops_append]
  simp [pops]
theorem pop_le : ∀ (n x : Nat), x < 2 ^ n → pop x ≤ n
  | 0, x, h => by
    have : x = 0 := by simpa using h
    rw [this, pop_zero]; omega
  | n + 1, x, h => by
    rw [pop_rec]
    have := pop_le n (x / 2) (by rw [Nat.pow_succ] at h; omega)
    omega
theorem pops_le {xs : List Nat} (hd : Dig 4294967296 xs) : pops xs ≤ 32 * xs.length := by
  induction xs with
  | nil => simp [pops]
  | cons x xs ih =>
    have h1 := pop_le 32 x hd.head_
    have h2 := ih hd.tail_
    simp only [pops, List.length_cons]; omega
theorem pops_trim (xs : List Nat) : pops (trimL xs) = pops xs := by
  induction xs with
  | nil => rfl
  | cons x xs ih =>
    simp only [trimL]
    split
    · rename_i e
      rw [e] at ih
      split
      · rename_i h0; rw [h0]; simp only [pops, pop_zero] at *; omega
      · simp only [pops] at *; omega
    · rename_i e
      rw [e] at ih
      simp only [pops] at *; omega

theorem bitAt_test (xs : List Nat) (i : Nat) : (at0 xs (i / 32)).testBit (i % 32) = decide (bitAt xs i = 1) := by
  rw [Nat.testBit_eq_decide_div_mod_eq]; rfl
theorem bitAt_in {xs : List Nat} {k t : Nat} (h : k < xs.length) (ht : t < 32) : bitAt xs (32 * k + t) = xs[k] / 2 ^ t % 2 := by
  unfold bitAt
  rw [show (32 * k + t) / 32 = k from by omega, show (32 * k + t) % 32 = t from by omega, at0_in h]
theorem bit_one {x t : Nat} (h : x.testBit t = true) : x / 2 ^ t % 2 = 1 := by
  rw [Nat.testBit_eq_decide_div_mod_eq] at h; exact of_decide_eq_true h
theorem bit_zero {x t : Nat} (h : x.testBit t = false) : x / 2 ^ t % 2 = 0 := by
  rw [Nat.testBit_eq_decide_div_mod_eq] at h
  have := of_decide_eq_false h
  omega

/-- What the step to the next one does. -/
structure Low (y t z : Nat) : Prop where
  lt : t < 32
  one : y.testBit t = true
  below : ∀ j, j < t → y.testBit j = false
  rest : ∀ j, z.testBit j = true → y.testBit j = true ∧ t < j
  pops : pop z + 1 = pop y
  less : z < y
theorem low_of {y : Nat} (h0 : y ≠ 0) (h : y < 4294967296) : Low y (Lib.ctz 32 y) (y &&& (y - 1)) := by
  obtain ⟨m, hm, hk⟩ := Lib.ctzFrom_spec 32 y (by omega) h
  have e0 : Lib.ctz 32 y = Lib.ctzFrom 32 y := by unfold Lib.ctz; rw [if_neg h0]
  rw [e0]
  obtain ⟨k, hke⟩ : ∃ k, k = Lib.ctzFrom 32 y := ⟨_, rfl⟩
  rw [← hke] at hm hk ⊢
  have hp := Nat.two_pow_pos k
  have e1 : y - 1 = 2 ^ k * (2 * m) + (2 ^ k - 1) := by rw [hm, Nat.mul_add]; omega
  have e2 : y = 2 ^ k * (2 * m + 1) + 0 := by rw [← hm]; rfl
  have b1 : ∀ j, y.testBit j = if j < k then false else (2 * m + 1).testBit (j - k) := fun j => by
    rw [e2, Nat.testBit_two_pow_mul_add _ hp]; simp
  have b2 : ∀ j, (y - 1).testBit j = if j < k then (2 ^ k - 1).testBit j else (2 * m).testBit (j - k) := fun j => by
    rw [e1, Nat.testBit_two_pow_mul_add _ (by omega)]
  have b3 : ∀ j, (2 ^ k * (2 * m)).testBit j = if j < k then false else (2 * m).testBit (j - k) := fun j => by
    have := Nat.testBit_two_pow_mul_add (2 * m) hp j
    rw [Nat.add_zero] at this
    rw [this]; simp
  have o1 : ∀ t, ((2 * m + 1).testBit t && (2 * m).testBit t) = (2 * m).testBit t := fun t => by
    cases t with
    | zero => simp
    | succ t => rw [Nat.testBit_succ, Nat.testBit_succ, show (2 * m + 1) / 2 = m from by omega, show 2 * m / 2 = m from by omega]; simp
  have ez : y &&& (y - 1) = 2 ^ k * (2 * m) := by
    refine Nat.eq_of_testBit_eq fun j => ?_
    rw [Nat.testBit_and, b1, b2, b3]
    by_cases hj : j < k
    · simp [hj]
    · simp only [hj, if_false]; exact o1 _
  rw [ez]
  refine ⟨hk, ?_, ?_, ?_, ?_, ?_⟩
  · rw [b1]; simp
  · intro j hj; rw [b1]; simp [hj]
  · intro j hj
    rw [b3] at hj
    by_cases hjk : j < k
    · simp [hjk] at hj
    · simp only [hjk, if_false] at hj
      rw [b1]; simp only [hjk, if_false]
      obtain ⟨t, ht⟩ : ∃ t, t = j - k := ⟨_, rfl⟩
      rw [← ht] at hj ⊢
      have h1 := o1 t
      rw [hj] at h1
      refine ⟨by simpa using h1, ?_⟩
      rcases Nat.eq_zero_or_pos t with h2 | h2
      · subst h2; simp at hj
      · omega
  · conv => rhs; rw [hm]
    rw [pop_shift, pop_shift, pop_double, pop_odd]
  · conv => rhs; rw [hm]
    rw [Nat.mul_add]; omega

/-- A place. -/
abbrev Pl := { x : Nat // x < 1152921504606846976 }
/-- The last place yielded; -1 ahead of the first. -/
def lastI (pre : List Pl) : Int := match pre.getLast? with
  | none => -1
  | some x => (x.1 : Int)
theorem lastI_nil : lastI [] = -1 := rfl
theorem lastI_snoc (pre : List Pl) (x : Pl) : lastI (pre ++ [x]) = (x.1 : Int) := by simp [lastI]
/-- Rising places, each of a one. -/
def Good (xs : List Nat) (pre : List Pl) : Prop := ∀ (p : List Pl) (x : Pl), (p ++ [x]) <+: pre → lastI p < (x.1 : Int) ∧ bitAt xs x.1 = 1
theorem Good.nil_ (xs : List Nat) : Good xs [] := fun p x h => by
  have := List.prefix_nil.1 h
  simp at this
theorem Good.step {xs : List Nat} {pre : List Pl} (h : Good xs pre) (x : Pl) (h1 : lastI pre < (x.1 : Int)) (h2 : bitAt xs x.1 = 1) : Good xs (pre ++ [x]) := fun p y hp => by
  rcases List.prefix_concat_iff.1 hp with e | e
  · obtain ⟨rfl, e2⟩ := List.append_inj' e rfl
    obtain rfl : y = x := by simpa using e2
    exact ⟨h1, h2⟩
  · exact h p y e
theorem Good.last {xs : List Nat} {pre : List Pl} {x : Pl} (h : Good xs (pre ++ [x])) : lastI pre < (x.1 : Int) ∧ bitAt xs x.1 = 1 := h pre x (List.prefix_refl _)

/-- Between two limbs; within one. -/
structure Limbs (xs : List Nat) (k : Nat) (pre : List Pl) : Prop where
  le : k ≤ xs.length
  good : Good xs pre
  count : pre.length = pops (xs.take k)
  last : lastI pre < 32 * (k : Int)
structure Inner (xs : List Nat) (k y : Nat) (pre : List Pl) : Prop where
  lt : k < xs.length
  yb : y < 4294967296
  good : Good xs pre
  count : pre.length + pop y = pops (xs.take (k + 1))
  last : lastI pre < 32 * ((k : Int) + 1)
  bits : ∀ j, y.testBit j = true → at0 xs k / 2 ^ j % 2 = 1 ∧ lastI pre < 32 * (k : Int) + (j : Int)
theorem Limbs.start (xs : List Nat) : Limbs xs 0 [] := ⟨by omega, Good.nil_ _, by simp [pops], by rw [lastI_nil]; omega⟩
theorem Limbs.enter {xs : List Nat} {k : Nat} {pre : List Pl} (h : Limbs xs k pre) (hd : Dig 4294967296 xs) (hk : k < xs.length) : Inner xs k xs[k] pre := by
  have h1 := h.last
  refine ⟨hk, hd.at_ k hk, h.good, by rw [pops_take_succ _ _ hk, h.count], by omega, fun j hj => ⟨?_, by omega⟩⟩
  rw [at0_in hk]; exact bit_one hj
theorem Inner.leave {xs : List Nat} {k : Nat} {pre : List Pl} (h : Inner xs k 0 pre) : Limbs xs (k + 1) pre := by
  have h1 := h.lt
  have h2 := h.last
  refine ⟨by omega, h.good, by have := h.count; rw [pop_zero] at this; omega, by omega⟩
theorem Inner.ok {xs : List Nat} {k y t z : Nat} {pre : List Pl} (h : Inner xs k y pre) (hl : Low y t z) : lastI pre < 32 * (k : Int) + (t : Int) ∧ bitAt xs (32 * k + t) = 1 := by
  have h1 := h.bits t hl.one
  refine ⟨h1.2, ?_⟩
  rw [bitAt_in h.lt hl.lt, ← at0_in h.lt]
  exact h1.1
theorem Inner.step {xs : List Nat} {k y t z : Nat} {pre : List Pl} (h : Inner xs k y pre) (hl : Low y t z) (x : Pl) (hx : x.1 = 32 * k + t) : Inner xs k z (pre ++ [x]) := by
  have h1 := h.ok hl
  have h2 := hl.less
  have h3 := h.yb
  have h4 := hl.lt
  have h5 := hl.pops
  refine ⟨h.lt, by omega, h.good.step x (by rw [hx]; omega) (by rw [hx]; exact h1.2), ?_, ?_, ?_⟩
  · rw [List.length_append, List.length_singleton]; have := h.count; omega
  · rw [lastI_snoc, hx]; omega
  · intro j hj
    obtain ⟨a, b⟩ := hl.rest j hj
    refine ⟨(h.bits j a).1, ?_⟩
    rw [lastI_snoc, hx]; omega

/-- The lowest place of a one; 0 if there is none. -/
def TrailIs (xs : List Nat) (t : Nat) : Prop := (t < 32 * xs.length ∧ bitAt xs t = 1 ∧ ∀ j, j < t → bitAt xs j ≠ 1) ∨ (t = 0 ∧ ∀ j, j < 32 * xs.length → bitAt xs j ≠ 1)
theorem trail_at {xs : List Nat} {k t z : Nat} (hk : k < xs.length) (h0 : ∀ j, j < k → at0 xs j = 0) (hl : Low xs[k] t z) : TrailIs xs (32 * k + t) := by
  have h1 := hl.lt
  refine Or.inl ⟨by omega, by rw [bitAt_in hk h1]; exact bit_one hl.one, fun j hj => ?_⟩
  rcases Nat.lt_or_ge j (32 * k) with h | h
  · unfold bitAt
    rw [h0 (j / 32) (by omega)]; simp
  · obtain ⟨s, rfl⟩ := Nat.exists_eq_add_of_le h
    rw [bitAt_in hk (by omega), bit_zero (hl.below s (by omega))]
    omega
theorem trail_none {xs : List Nat} (h0 : ∀ j, j < xs.length → at0 xs j = 0) : TrailIs xs 0 := Or.inr ⟨rfl, fun j hj => by
  unfold bitAt
  rw [h0 (j / 32) (by omega)]; simp⟩
end Go.Proofs.YtogkfpbapjjgfaaDoor
