/- The contract of scatter. Conditions: the length is a power of two, the roots are half as many. The contract of gather. Conditions: the length is a power of two, the roots are half as many. The contract of byTransform. Conditions: at most 2^29 words together. The walk of byTransform. Conditions: at most 2^29 words together. The contract of product, for all words: by induction on their number. Conditions: at most 2^29 words together. The contracts of nat.Sub and shortMul. Conditions: fewer limbs than any slice can have. The contract of nat.Mul. Conditions: at most 2^30 limbs together. -/
import Derived.Test.YtbafiahmcfkboaaDoorPkHo24
import Derived.IntWalk
import Derived.Deep.RegionWith
import Derived.Test.YtbafiahmcfkboaaDoorPkHo21
namespace Go.Proofs.YtbafiahmcfkboaaDoor
section
open Go.RowKit

/-- A row that is partly turned: new below f, and i places of two halves from f on. -/
def Mix (S T : Nat → FP) (n f h i : Nat) (zs : List Nat) : Prop :=
  zs.length = n ∧ (∀ v ∈ zs, v < 18446744069414584321) ∧ ∀ j (hj : j < zs.length), ph zs[j] = if j < f ∨ (f ≤ j ∧ j < f + i) ∨ (f + h ≤ j ∧ j < f + h + i) then T j else S j
/-- A row that is S. -/
def Row (S : Nat → FP) (n : Nat) (zs : List Nat) : Prop :=
  zs.length = n ∧ (∀ v ∈ zs, v < 18446744069414584321) ∧ ∀ j (hj : j < zs.length), ph zs[j] = S j
theorem Mix.start {S T : Nat → FP} {n h : Nat} {zs : List Nat} (hr : Row S n zs) : Mix S T n 0 h 0 zs :=
  ⟨hr.1, hr.2.1, fun j hj => by rw [if_neg (by omega)]; exact hr.2.2 j hj⟩
theorem Mix.next {S T : Nat → FP} {n f h : Nat} {zs : List Nat} (hm : Mix S T n f h h zs) : Mix S T n (f + 2 * h) h 0 zs :=
  ⟨hm.1, hm.2.1, fun j hj => by
    rw [hm.2.2 j hj]
    by_cases h1 : j < f + 2 * h
    · rw [if_pos (by omega), if_pos (by omega)]
    · rw [if_neg (by omega), if_neg (by omega)]⟩
theorem Mix.done {S T : Nat → FP} {n h : Nat} {zs : List Nat} (hm : Mix S T n n h 0 zs) : Row T n zs :=
  ⟨hm.1, hm.2.1, fun j hj => by rw [hm.2.2 j hj, if_pos (by have := hm.1; omega)]⟩
theorem Mix.old {S T : Nat → FP} {n f h i j : Nat} {zs : List Nat} (hm : Mix S T n f h i zs) (hj : j < zs.length) (h1 : f ≤ j) (h2 : ¬ (j < f + i)) (h3 : ¬ (f + h ≤ j ∧ j < f + h + i)) : ph zs[j] = S j := by
  rw [hm.2.2 j hj, if_neg (by omega)]
theorem Mix.step {S T : Nat → FP} {n f h i a b : Nat} {zs : List Nat} (hm : Mix S T n f h i zs) (hi : i < h) (_ : f + 2 * h ≤ n) (ha : a < 18446744069414584321) (hb : b < 18446744069414584321) (ea : ph a = T (f + i)) (eb : ph b = T (f + h + i)) : Mix S T n f h (i + 1) ((zs.set (f + i) a).set (f + h + i) b) := by
  refine ⟨by simpa using hm.1, fun v hv => ?_, fun j hj => ?_⟩
  · rcases List.mem_or_eq_of_mem_set hv with hv | rfl
    · rcases List.mem_or_eq_of_mem_set hv with hv | rfl
      · exact hm.2.1 v hv
      · exact ha
    · exact hb
  · have hj2 : j < zs.length := by simpa using hj
    rw [List.getElem_set]
    split
    · rename_i e
      subst e
      rw [if_pos (by omega)]; exact eb
    · rw [List.getElem_set]
      split
      · rename_i e
        subst e
        rw [if_pos (by omega)]; exact ea
      · rw [hm.2.2 j hj2]
        by_cases h1 : j < f ∨ (f ≤ j ∧ j < f + i) ∨ (f + h ≤ j ∧ j < f + h + i)
        · rw [if_pos h1, if_pos (by omega)]
        · rw [if_neg h1, if_neg (by omega)]
end
section
open Go.RowKit
end
section
open Go.RowKit

/-- What the row of products is: each place the product of both. -/
def Prod (S T : Nat → FP) (n i : Nat) (zs : List Nat) : Prop :=
  zs.length = n ∧ (∀ v ∈ zs, v < 18446744069414584321) ∧ ∀ j (hj : j < zs.length), ph zs[j] = if j < i then S j * T j else S j
theorem Prod.start {S T : Nat → FP} {n : Nat} {zs : List Nat} (h : Row S n zs) : Prod S T n 0 zs := ⟨h.1, h.2.1, fun j hj => by rw [if_neg (by omega)]; exact h.2.2 j hj⟩
theorem Prod.step {S T : Nat → FP} {n i a : Nat} {zs : List Nat} (h : Prod S T n i zs) (ha : a < 18446744069414584321) (ea : ph a = S i * T i) : Prod S T n (i + 1) (zs.set i a) := by
  refine ⟨by simpa using h.1, fun v hv => ?_, fun j hj => ?_⟩
  · rcases List.mem_or_eq_of_mem_set hv with hv | rfl
    · exact h.2.1 v hv
    · exact ha
  · rw [List.getElem_set]
    split
    · rename_i e; subst e; rw [if_pos (by omega)]; exact ea
    · rw [h.2.2 j (by simpa using hj)]
      by_cases h1 : j < i
      · rw [if_pos h1, if_pos (by omega)]
      · rw [if_neg h1, if_neg (by omega)]
theorem Prod.done {S T : Nat → FP} {n : Nat} {zs : List Nat} (h : Prod S T n n zs) : Row (fun j => if j < n then S j * T j else 0) n zs := ⟨h.1, h.2.1, fun j hj => by
  have h1 := h.1
  rw [h.2.2 j hj, if_pos (by omega)]
  show _ = if j < n then S j * T j else 0
  rw [if_pos (by omega)]⟩
end
section
open Go.RowKit
end
section
open Go.RowKit
end
section
open Go.RowKit
end
section
open Go.RowKit

theorem num_eq {b m n : Nat} {zs : List Nat} (h : Num b zs m) (e : m = n) : Num b zs n := e ▸ h
end
end Go.Proofs.YtbafiahmcfkboaaDoor
