/- The contract of the reference's Div. Conditions: the divisor is not 0; fewer limbs than any slice can have. The places of the bits that are 1: plain mathematics. No conditions. The contracts of the reference's Of and of nat.Uint64. No conditions beyond the sizes. The contracts of the reference's operations on sizes that are held. Conditions: at most 2^26 limbs. -/
import Derived.Test.YtadpelhmjmamnaaGreatDoorPkCf30
import Derived.Test.YtadpelhmjmamnaaGreatDoorPkCf20
import Derived.Lib.TrailingZeros
import Derived.Shelf.Spec.TrailingZeros
import Derived.Test.YtadpelhmjmamnaaGreatDoorPkCf21
namespace Go.Proofs.YtadpelhmjmamnaaGreatDoor
section
open Go.RowKit
end
section
open Go.RowKit

/-- The i-th bit of a number in limbs. -/
def bitAt (xs : List Nat) (i : Nat) : Nat := at0 xs (i / 32) / 2 ^ (i % 32) % 2
/-- How many ones. -/
def pop (n : Nat) : Nat := if h : n = 0 then 0 else n % 2 + pop (n / 2)
termination_by n
decreasing_by omega
def pops : List Nat → Nat
  | [] => 0
  | x :: xs => pop x + pops xs
theorem pops_append (xs ys : List Nat) : pops (xs ++ ys) = pops xs + pops ys := by
  induction xs with
  | nil => simp [pops]
  | cons x xs ih => simp only [List.cons_append, pops, ih]; omega
theorem pops_take_succ (xs : List Nat) (k : Nat) (h : k < xs.length) : pops (xs.take (k + 1)) = pops (xs.take k) + pop xs[k] := by
  rw [List.take_succ_eq_append_getElem h, pops_append]
  simp [pops]
theorem bitAt_in {xs : List Nat} {k t : Nat} (h : k < xs.length) (ht : t < 32) : bitAt xs (32 * k + t) = xs[k] / 2 ^ t % 2 := by
  unfold bitAt
  rw [show (32 * k + t) / 32 = k from by omega, show (32 * k + t) % 32 = t from by omega, at0_in h]
theorem bit_one {x t : Nat} (h : x.testBit t = true) : x / 2 ^ t % 2 = 1 := by
  rw [Nat.testBit_eq_decide_div_mod_eq] at h; exact of_decide_eq_true h
/-- What the step to the next one does. -/
structure Low (y t z : Nat) : Prop where
  lt : t < 32
  one : y.testBit t = true
  below : ∀ j, j < t → y.testBit j = false
  rest : ∀ j, z.testBit j = true → y.testBit j = true ∧ t < j
  pops : pop z + 1 = pop y
  less : z < y
/-- A place. -/
abbrev Pl := { x : Nat // x < 1152921504606846976 }
/-- The last place yielded; -1 ahead of the first. -/
def lastI (pre : List Pl) : Int := match pre.getLast? with
  | none => -1
  | some x => (x.1 : Int)
theorem lastI_nil : lastI [] = -1 := rfl
theorem lastI_snoc (pre : List Pl) (x : Pl) : lastI (pre ++ [x]) = (x.1 : Int) := by simp [lastI]
/-- Rising places, each of a one. -/
def Good (xs : List Nat) (pre : List Pl) : Prop := ∀ (p : List Pl) (x : Pl), (p ++ [x]) <+: pre → lastI p < (x.1 : Int) ∧ bitAt xs x.1 = 1
theorem Good.nil_ (xs : List Nat) : Good xs [] := fun p x h => by
  have := List.prefix_nil.1 h
  simp at this
theorem Good.step {xs : List Nat} {pre : List Pl} (h : Good xs pre) (x : Pl) (h1 : lastI pre < (x.1 : Int)) (h2 : bitAt xs x.1 = 1) : Good xs (pre ++ [x]) := fun p y hp => by
  rcases List.prefix_concat_iff.1 hp with e | e
  · obtain ⟨rfl, e2⟩ := List.append_inj' e rfl
    obtain rfl : y = x := by simpa using e2
    exact ⟨h1, h2⟩
  · exact h p y e
theorem Good.last {xs : List Nat} {pre : List Pl} {x : Pl} (h : Good xs (pre ++ [x])) : lastI pre < (x.1 : Int) ∧ bitAt xs x.1 = 1 := h pre x (List.prefix_refl _)

/-- Between two limbs; within one. -/
structure Limbs (xs : List Nat) (k : Nat) (pre : List Pl) : Prop where
  le : k ≤ xs.length
  good : Good xs pre
  count : pre.length = pops (xs.take k)
  last : lastI pre < 32 * (k : Int)
structure Inner (xs : List Nat) (k y : Nat) (pre : List Pl) : Prop where
  lt : k < xs.length
  yb : y < 4294967296
  good : Good xs pre
  count : pre.length + pop y = pops (xs.take (k + 1))
  last : lastI pre < 32 * ((k : Int) + 1)
  bits : ∀ j, y.testBit j = true → at0 xs k / 2 ^ j % 2 = 1 ∧ lastI pre < 32 * (k : Int) + (j : Int)
theorem Limbs.start (xs : List Nat) : Limbs xs 0 [] := ⟨by omega, Good.nil_ _, by simp [pops], by rw [lastI_nil]; omega⟩
theorem Limbs.enter {xs : List Nat} {k : Nat} {pre : List Pl} (h : Limbs xs k pre) (hd : Dig 4294967296 xs) (hk : k < xs.length) : Inner xs k xs[k] pre := by
  have h1 := h.last
  refine ⟨hk, hd.at_ k hk, h.good, by rw [pops_take_succ _ _ hk, h.count], by omega, fun j hj => ⟨?_, by omega⟩⟩
  rw [at0_in hk]; exact bit_one hj
theorem Inner.ok {xs : List Nat} {k y t z : Nat} {pre : List Pl} (h : Inner xs k y pre) (hl : Low y t z) : lastI pre < 32 * (k : Int) + (t : Int) ∧ bitAt xs (32 * k + t) = 1 := by
  have h1 := h.bits t hl.one
  refine ⟨h1.2, ?_⟩
  rw [bitAt_in h.lt hl.lt, ← at0_in h.lt]
  exact h1.1
theorem Inner.step {xs : List Nat} {k y t z : Nat} {pre : List Pl} (h : Inner xs k y pre) (hl : Low y t z) (x : Pl) (hx : x.1 = 32 * k + t) : Inner xs k z (pre ++ [x]) := by
  have h1 := h.ok hl
  have h2 := hl.less
  have h3 := h.yb
  have h4 := hl.lt
  have h5 := hl.pops
  refine ⟨h.lt, by omega, h.good.step x (by rw [hx]; omega) (by rw [hx]; exact h1.2), ?_, ?_, ?_⟩
  · rw [List.length_append, List.length_singleton]; have := h.count; omega
  · rw [lastI_snoc, hx]; omega
  · intro j hj
    obtain ⟨a, b⟩ := hl.rest j hj
    refine ⟨(h.bits j a).1, ?_⟩
    rw [lastI_snoc, hx]; omega
end
section
open Go.RowKit
end
section
open Go.RowKit

section
variable {w w' : World} {A A2 : Option Addr} {c c2 n k K J : Nat} {xs ys : List Nat}
theorem Hv.rnorm (h : Hv w A c xs n K) (hK : K ≤ 67108864) : Calls Tryz.prog 65 #[.slice A xs.length c] w fun e w' => NOut w w' n e := by
  have hl1 := h.len
  refine (rnorm_any A c xs w w.heap.size h.rd (Nat.le_refl _) (by omega)).mono ?_
  rintro e w' ⟨A', c', rfl, hr, hb⟩
  exact ⟨_, A', c', rfl, by rw [← h.val_]; exact Num.of_trim h.dig, hr, hb⟩
theorem Hv.radd (h : Hv w A c xs n K) (h2 : Hv w A2 c2 ys k J) (hK : K ≤ 67108864) (hJ : J ≤ 67108864) : Calls Tryz.prog 44 #[.slice A xs.length c, .slice A2 ys.length c2] w fun e w' => NOut w w' (n + k) e := by
  have hl1 := h.len
  have hl2 := h2.len
  have h9 := radd_any A A2 c c2 xs ys w w.heap.size h.rd h2.rd (Nat.le_refl _) h.dig h2.dig (by omega) (by omega)
  rwa [h.val_, h2.val_] at h9
theorem Hv.rsub (h : Hv w A c xs n K) (h2 : Hv w A2 c2 ys k J) (hK : K ≤ 67108864) (hJ : J ≤ 67108864) (hle : k ≤ n) : Calls Tryz.prog 121 #[.slice A xs.length c, .slice A2 ys.length c2] w fun e w' => NOut w w' (n - k) e := by
  have hl1 := h.len
  have hl2 := h2.len
  have h9 := rsub_any A A2 c c2 xs ys w w.heap.size h.rd h2.rd (Nat.le_refl _) h.dig h2.dig (by omega) (by omega) (by rw [h.val_, h2.val_]; exact hle)
  rwa [h.val_, h2.val_] at h9
theorem Hv.rcmp (h : Hv w A c xs n K) (h2 : Hv w A2 c2 ys k J) (hK : K ≤ 67108864) (hJ : J ≤ 67108864) : Calls Tryz.prog 40 #[.slice A xs.length c, .slice A2 ys.length c2] w fun e w' => e = .returned (.int .i64 (cmpN n k)) ∧ w = w' := by
  have hl1 := h.len
  have hl2 := h2.len
  have h9 := rcmp_any A A2 c c2 xs ys w w.heap.size h.rd h2.rd h.dig h2.dig (by omega) (by omega)
  rwa [h.val_, h2.val_] at h9
theorem Hv.rzero (h : Hv w A c xs n K) (hK : K ≤ 67108864) : Calls Tryz.prog 95 #[.slice A xs.length c] w fun e w' => e = .returned (.bool (decide (n = 0))) ∧ w = w' := by
  have hl1 := h.len
  have h9 := zero_any A c xs w w.heap.size h.rd (by omega)
  have e : decide (trimL xs = []) = decide (n = 0) := by
    have := (Num.of_trim h.dig).nil_iff (by omega)
    rw [h.val_] at this
    exact decide_eq_decide.2 this
  rwa [e] at h9
end
end
end Go.Proofs.YtadpelhmjmamnaaGreatDoor
