/- Plain numbers for the reference's Div. -/
import Derived.Test.YtogkfpbapjjgfaaRefSub
namespace Go.Proofs.Ytogkfpbapjjgfaa
open Go.RowKit

/-- What Div's row and rest are when the limbs from k on are divided. -/
def Longed (xs : List Nat) (n k : Nat) (qs : List Nat) (r : Nat) : Prop :=
  qs.length = xs.length ∧ Dig 4294967296 qs ∧ r < n ∧ val 4294967296 (xs.drop k) = val 4294967296 (qs.drop k) * n + r ∧ ∀ j (h : j < qs.length), j < k → qs[j] = 0
theorem Longed.start (xs : List Nat) (n : Nat) (hn : 0 < n) : Longed xs n xs.length (List.replicate xs.length 0) 0 :=
  ⟨by simp, Dig.zeros_ (by omega) _, hn, by simp [val], fun j h _ => by simp⟩
theorem Longed.small {xs qs : List Nat} {n k r : Nat} (h : Longed xs n (k + 1) qs r) (hk : k < xs.length) (hlt : xs[k] + 4294967296 * r < n) : Longed xs n k qs (xs[k] + 4294967296 * r) := by
  obtain ⟨h1, h2, h3, h4, h5⟩ := h
  refine ⟨h1, h2, hlt, ?_, fun j hj hjk => h5 j hj (by omega)⟩
  have e1 : xs.drop k = xs[k] :: xs.drop (k + 1) := List.drop_eq_getElem_cons hk
  have e2 : qs.drop k = qs[k]'(by omega) :: qs.drop (k + 1) := List.drop_eq_getElem_cons (by omega)
  rw [e1, e2, h5 k (by omega) (by omega)]
  simp only [val]
  rw [h4, Nat.mul_add, Nat.zero_add, Nat.mul_assoc]; omega
theorem Longed.step {xs qs : List Nat} {n k r : Nat} (h : Longed xs n (k + 1) qs r) (hk : k < xs.length) (hx : xs[k] < 4294967296) :
    (xs[k] + 4294967296 * r) / n < 4294967296 ∧ Longed xs n k (qs.set k ((xs[k] + 4294967296 * r) / n)) ((xs[k] + 4294967296 * r) % n) := by
  obtain ⟨h1, h2, h3, h4, h5⟩ := h
  have hq : (xs[k] + 4294967296 * r) / n < 4294967296 := by
    rw [Nat.div_lt_iff_lt_mul (by omega)]
    have : 4294967296 * (r + 1) ≤ 4294967296 * n := Nat.mul_le_mul_left _ h3
    omega
  refine ⟨hq, by simpa using h1, h2.set_ _ _ hq, Nat.mod_lt _ (by omega), ?_, fun j hj hjk => ?_⟩
  · have e1 : xs.drop k = xs[k] :: xs.drop (k + 1) := List.drop_eq_getElem_cons hk
    have e2 : (qs.set k ((xs[k] + 4294967296 * r) / n)).drop k = ((xs[k] + 4294967296 * r) / n) :: qs.drop (k + 1) := by
      rw [List.drop_eq_getElem_cons (by simpa using (by omega : k < qs.length))]
      simp [List.getElem_set, List.drop_set]
    rw [e1, e2]
    simp only [val]
    rw [h4]
    have hd := Nat.div_add_mod (xs[k] + 4294967296 * r) n
    generalize (xs[k] + 4294967296 * r) / n = q at *
    generalize (xs[k] + 4294967296 * r) % n = m at *
    rw [Nat.add_mul, Nat.mul_add, Nat.mul_assoc, Nat.mul_comm q n]
    generalize val 4294967296 (qs.drop (k + 1)) * n = z at *
    omega
  · rw [List.getElem_set, if_neg (by omega)]
    exact h5 j (by simpa using hj) (by omega)
theorem Longed.last {xs qs : List Nat} {n r : Nat} (h : Longed xs n 0 qs r) : val 4294967296 qs = val 4294967296 xs / n ∧ r = val 4294967296 xs % n := by
  obtain ⟨h1, h2, h3, h4, h5⟩ := h
  simp only [List.drop_zero] at h4
  rw [h4, Nat.mul_comm]
  constructor
  · rw [Nat.mul_add_div (by omega), Nat.div_eq_of_lt h3, Nat.add_zero]
  · rw [Nat.mul_add_mod, Nat.mod_eq_of_lt h3]

/-- The bits of a digit, from the top. -/
theorem bit_yes (D j : Nat) (h : D / 2 ^ (j + 1) * 2 ^ (j + 1) + 2 ^ j ≤ D) : D / 2 ^ j * 2 ^ j = D / 2 ^ (j + 1) * 2 ^ (j + 1) + 2 ^ j := by
  have hp : 0 < 2 ^ j := Nat.two_pow_pos j
  rw [Nat.pow_succ, ← Nat.div_div_eq_div_mul] at h ⊢
  have h1 := Nat.div_add_mod D (2 ^ j)
  have h2 : D % 2 ^ j < 2 ^ j := Nat.mod_lt _ hp
  generalize D / 2 ^ j = q at *
  have h3 : q / 2 * (2 ^ j * 2) = (q / 2 * 2) * 2 ^ j := by rw [Nat.mul_comm (2 ^ j) 2, ← Nat.mul_assoc]
  rw [h3] at h ⊢
  have h4 : q % 2 = 1 := by
    rcases Nat.mod_two_eq_zero_or_one q with h0 | h0
    · exfalso
      have : q / 2 * 2 = q := by omega
      rw [this, Nat.mul_comm] at h
      omega
    · exact h0
  have h5 : q = q / 2 * 2 + 1 := by omega
  conv => lhs; rw [h5]
  rw [Nat.add_mul, Nat.one_mul]
theorem bit_no (D j : Nat) (h : ¬ (D / 2 ^ (j + 1) * 2 ^ (j + 1) + 2 ^ j ≤ D)) : D / 2 ^ j * 2 ^ j = D / 2 ^ (j + 1) * 2 ^ (j + 1) := by
  have hp : 0 < 2 ^ j := Nat.two_pow_pos j
  rw [Nat.pow_succ, ← Nat.div_div_eq_div_mul] at h ⊢
  have h1 := Nat.div_add_mod D (2 ^ j)
  generalize D / 2 ^ j = q at *
  have h3 : q / 2 * (2 ^ j * 2) = (q / 2 * 2) * 2 ^ j := by rw [Nat.mul_comm (2 ^ j) 2, ← Nat.mul_assoc]
  rw [h3] at h ⊢
  have h4 : q % 2 = 0 := by
    rcases Nat.mod_two_eq_zero_or_one q with h0 | h0
    · exact h0
    · exfalso
      have h5 : q = q / 2 * 2 + 1 := by omega
      rw [h5, Nat.mul_add, Nat.mul_one, Nat.mul_comm] at h1
      omega
  have h5 : q / 2 * 2 = q := by omega
  rw [h5]

theorem Res.setCell {w : World} {B : Nat} {t : TypeId} {A : Option Addr} {c : Nat} {vs : List Value} (h : Res w B t A c vs) {p : Addr} (hp : p.block < B) (u : Value) : Res (w.setCell p u) B t A c vs :=
  ⟨h.1, h.2.1, fun hn => by
    obtain ⟨g, rest, e, hg, hk, hc⟩ := h.2.2 hn
    exact ⟨g, rest, e, hg, hk.far (by omega) u, hc⟩⟩
theorem Res.len32 {w : World} {B : Nat} {t : TypeId} {A : Option Addr} {c : Nat} {xs : List Nat} (h : Res w B t A c (u32s xs)) : xs.length ≤ c := by have := h.1; rwa [u32s_length] at this
end Go.Proofs.Ytogkfpbapjjgfaa
