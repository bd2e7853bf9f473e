/- The lists of primes step by step: what Next and Last tell of them. No conditions. -/
import Derived.Test.YtnjhppdcpjgfmaaDoorListP
namespace Go.Proofs.YtnjhppdcpjgfmaaDoor
open Go.RowKit

/-- From one element of the list to the next. -/
def Chain (Nx : Nat → Nat → Bool → Prop) (L : List Nat) : Prop := ∀ i, i < L.length → Nx (L.getD i 0) (L.getD (i + 1) 0) (decide (i + 1 < L.length))
/-- How the list begins, seen from a number. -/
def Begins (Nx : Nat → Nat → Bool → Prop) (a : Nat) (L : List Nat) : Prop := (Pr a → 0 < L.length ∧ L.getD 0 0 = a) ∧ (¬ Pr a → Nx a (L.getD 0 0) (decide (0 < L.length)))
theorem Chain.cons {Nx : Nat → Nat → Bool → Prop} {x : Nat} {L : List Nat} (h : Chain Nx L) (hx : Nx x (L.getD 0 0) (decide (0 < L.length))) : Chain Nx (x :: L) := by
  intro i hi
  cases i with
  | zero => simpa using hx
  | succ i =>
    have := h i (by simpa using hi)
    simpa using this

theorem up_head : ∀ (d n : Nat), n + 1 + d = 4294967296 → NextIs n ((up (n + 1) 4294967296).getD 0 0) (decide (0 < (up (n + 1) 4294967296).length))
  | 0, n, h => by
    rw [show n + 1 = 4294967296 from by omega, up_self]
    exact Or.inr ⟨rfl, rfl, fun m h1 h2 => by omega⟩
  | d + 1, n, h => by
    rw [up_cons (show n + 1 < 4294967296 by omega)]
    rcases isP_cases (n + 1) with ⟨hp, e⟩ | ⟨hp, e⟩
    · rw [if_pos e]
      exact Or.inl ⟨by simp, hp, by simp, by simp; omega, fun m h1 h2 => by simp at h2; omega⟩
    · rw [if_neg (by rw [e]; simp)]
      rcases up_head d (n + 1) (by omega) with ⟨h1, h2, h3, h4, h5⟩ | ⟨h1, h2, h3⟩
      · refine Or.inl ⟨h1, h2, by omega, h4, fun m hm1 hm2 => ?_⟩
        rcases Nat.lt_or_ge (n + 1) m with h6 | h6
        · exact h5 m h6 hm2
        · obtain rfl : m = n + 1 := by omega
          exact hp
      · refine Or.inr ⟨h1, h2, fun m hm1 hm2 => ?_⟩
        rcases Nat.lt_or_ge (n + 1) m with h6 | h6
        · exact h3 m h6 hm2
        · obtain rfl : m = n + 1 := by omega
          exact hp
theorem up_chain : ∀ (d a : Nat), a + d = 4294967296 → Chain NextIs (up a 4294967296)
  | 0, a, h => by
    rw [show a = 4294967296 from by omega, up_self]
    intro i hi
    simp at hi
  | d + 1, a, h => by
    rw [up_cons (show a < 4294967296 by omega)]
    split
    · exact (up_chain d (a + 1) (by omega)).cons (up_head d a (by omega))
    · exact up_chain d (a + 1) (by omega)
theorem up_begins {a : Nat} (ha : a < 4294967296) : Begins NextIs a (up a 4294967296) := by
  constructor
  · intro hp
    rw [up_cons ha, if_pos (isP_true hp)]
    exact ⟨by simp, by simp⟩
  · intro hp
    rw [up_cons ha, if_neg (by rw [isP_false hp]; simp)]
    exact up_head (4294967295 - a) a (by omega)

theorem down_cons {a : Nat} (h : 1 ≤ a) : down (a + 1) 1 = if isP (a + 1) = true then (a + 1) :: down a 1 else down a 1 := by
  unfold down
  rcases isP_cases (a + 1) with ⟨hp, e⟩ | ⟨hp, e⟩
  · rw [if_pos e, up_yes (show 1 + 1 ≤ a + 1 by omega) hp, List.reverse_append]; rfl
  · rw [if_neg (by rw [e]; simp), up_no (show 1 + 1 ≤ a + 1 by omega) hp]
theorem down_low {a : Nat} (h : a ≤ 1) : down a 1 = [] := by
  unfold down up
  rw [show a + 1 - (1 + 1) = 0 from by omega]; rfl
theorem down_head : ∀ n : Nat, LastIs (n + 1) ((down n 1).getD 0 0) (decide (0 < (down n 1).length))
  | 0 => by
    rw [down_low (by omega)]
    exact Or.inr ⟨rfl, rfl, fun m hm hp => by have := hp.1; omega⟩
  | 1 => by
    rw [down_low (by omega)]
    exact Or.inr ⟨rfl, rfl, fun m hm hp => by have := hp.1; omega⟩
  | n + 2 => by
    rw [down_cons (by omega)]
    rcases isP_cases (n + 1 + 1) with ⟨hp, e⟩ | ⟨hp, e⟩
    · rw [if_pos e]
      exact Or.inl ⟨by simp, hp, by simp, fun m h1 h2 => by simp at h1; omega⟩
    · rw [if_neg (by rw [e]; simp)]
      have key : ∀ m, m < n + 1 + 1 + 1 → (m < n + 1 + 1 → ¬ Pr m) → ¬ Pr m := fun m hm hx => by
        rcases Nat.lt_or_ge m (n + 1 + 1) with h6 | h6
        · exact hx h6
        · obtain rfl : m = n + 1 + 1 := by omega
          exact hp
      rcases down_head (n + 1) with ⟨h1, h2, h3, h5⟩ | ⟨h1, h2, h3⟩
      · exact Or.inl ⟨h1, h2, by omega, fun m hm1 hm2 => key m hm2 fun h => h5 m hm1 h⟩
      · exact Or.inr ⟨h1, h2, fun m hm2 => key m hm2 fun h => h3 m h⟩
theorem down_chain : ∀ a : Nat, Chain LastIs (down a 1)
  | 0 => by rw [down_low (by omega)]; intro i hi; simp at hi
  | 1 => by rw [down_low (by omega)]; intro i hi; simp at hi
  | a + 2 => by
    rw [down_cons (by omega)]
    split
    · exact (down_chain (a + 1)).cons (down_head (a + 1))
    · exact down_chain (a + 1)
theorem down_begins (a : Nat) : Begins LastIs a (down a 1) := by
  rcases Nat.lt_or_ge 1 a with h | h
  · obtain ⟨b, rfl⟩ : ∃ b, a = b + 1 := ⟨a - 1, by omega⟩
    constructor
    · intro hp
      rw [down_cons (by omega), if_pos (isP_true hp)]
      exact ⟨by simp, by simp⟩
    · intro hp
      rw [down_cons (by omega), if_neg (by rw [isP_false hp]; simp)]
      exact down_head b
  · rw [down_low h]
    refine ⟨fun hp => by have := hp.1; omega, fun _ => Or.inr ⟨rfl, rfl, fun m hm hp => by have := hp.1; omega⟩⟩
end Go.Proofs.YtnjhppdcpjgfmaaDoor
