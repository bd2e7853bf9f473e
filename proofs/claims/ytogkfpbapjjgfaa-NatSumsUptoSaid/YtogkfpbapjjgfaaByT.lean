/- The contract of byTransform. Conditions: at most 2^29 words together. -/
import Derived.Test.YtogkfpbapjjgfaaGath
namespace Go.Proofs.Ytogkfpbapjjgfaa
open Go.RowKit

theorem sLay_rt {z9 : Nat} {h : Nat} (hh : 0 < h) (rt ru x : Nat → Fin z9) (e : ∀ i, i < h → rt i = ru i) : sLay h rt x = sLay h ru x := by
  funext j
  unfold sLay
  split
  · rfl
  · rw [e _ (by have := Nat.mod_lt j (show 0 < 2 * h by omega); omega)]
theorem gLay_rt {z9 : Nat} {h : Nat} (hh : 0 < h) (rt ru x : Nat → Fin z9) (e : ∀ i, i < h → rt i = ru i) : gLay h rt x = gLay h ru x := by
  funext j
  unfold gLay
  split
  · rename_i hj; rw [e _ hj]
  · rw [e _ (by have := Nat.mod_lt j (show 0 < 2 * h by omega); omega)]
theorem sAll_rt {z9 : Nat} {k : Nat} (rts rus : Nat → Nat → Fin z9) (x : Nat → Fin z9) (e : ∀ j i, j < k → i < 2 ^ j → rts (2 ^ j) i = rus (2 ^ j) i) (m : Nat) (hm : m ≤ k) : sAll rts k m x = sAll rus k m x := by
  induction m with
  | zero => rfl
  | succ m ih =>
    show sLay _ _ (sAll rts k m x) = sLay _ _ (sAll rus k m x)
    rw [ih (by omega)]
    exact sLay_rt (Nat.two_pow_pos _) _ _ _ fun i hi => e _ i (by omega) hi
theorem gAll_rt {z9 : Nat} {k : Nat} (rts rus : Nat → Nat → Fin z9) (x : Nat → Fin z9) (e : ∀ j i, j < k → i < 2 ^ j → rts (2 ^ j) i = rus (2 ^ j) i) (m : Nat) (hm : m ≤ k) : gAll rts m x = gAll rus m x := by
  induction m with
  | zero => rfl
  | succ m ih =>
    show gLay _ _ (gAll rts m x) = gLay _ _ (gAll rus m x)
    rw [ih (by omega)]
    exact gLay_rt (Nat.two_pow_pos _) _ _ _ fun i hi => e _ i (by omega) hi
/-- What rootsOf makes is the roots of each layer. -/
theorem rtsL_of {rs : List Nat} {k r e : Nat} (hr : r = 7 ^ e % 18446744069414584321) (hl : rs.length = 2 ^ (k - 1)) (hz : ∀ i (hi : i < rs.length), rs[i] = r ^ i % 18446744069414584321) : ∀ j i, j < k → i < 2 ^ j → rtsL rs k (2 ^ j) i = rtsOf (ph 7 ^ e) k (2 ^ j) i := by
  intro j i hj hi
  unfold rtsL rtsOf
  have hix : i * (2 ^ (k - 1) / 2 ^ j) < rs.length := by
    rw [hl, half_div hj]
    calc i * 2 ^ (k - 1 - j) < 2 ^ j * 2 ^ (k - 1 - j) := Nat.mul_lt_mul_of_pos_right hi (Nat.two_pow_pos _)
      _ = 2 ^ (k - 1) := by rw [← Nat.pow_add]; congr 1; omega
  rw [List.getD_eq_getElem?_getD, List.getElem?_eq_getElem hix]
  show ph rs[i * (2 ^ (k - 1) / 2 ^ j)] = _
  rw [hz _ hix, ph_mod, ph_pow, hr, ph_mod, ph_pow]
theorem fl_pad (xs : List Nat) (m : Nat) : fl (xs ++ List.replicate m 0) = fl xs := by
  funext i
  unfold fl
  congr 1
  rw [List.getD_eq_getElem?_getD, List.getD_eq_getElem?_getD]
  by_cases h : i < xs.length
  · rw [List.getElem?_append_left h]
  · rw [List.getElem?_append_right (by omega), List.getElem?_eq_none (l := xs) (by omega), List.getElem?_replicate]
    split <;> rfl
theorem rootE_lt (k : Nat) : rootE k < 18446744073709551616 := by
  unfold rootE
  exact Nat.lt_of_le_of_lt (Nat.div_le_self _ _) (by omega)
theorem pad_lt {ds : List Nat} (h : ∀ v ∈ ds, v ≤ 65535) (m : Nat) : ∀ v ∈ ds ++ List.replicate m 0, v < 18446744069414584321 := fun v hv => by
  rcases List.mem_append.1 hv with hv | hv
  · have := h v hv; omega
  · rw [(List.mem_replicate.1 hv).2]; omega
theorem val_take_pad (b : Nat) (zs : List Nat) (n : Nat) (_ : zs.length ≤ n) : val b (zs ++ List.replicate (n - zs.length) 0) = val b zs := by
  rw [val_append, val_zeros]; simp
theorem val_addP (b : Nat) (xs ys : List Nat) : val b (addP xs ys) = val b xs + val b ys := by
  induction xs generalizing ys with
  | nil => simp [addP, val]
  | cons x xs ih => cases ys with
    | nil => simp [addP, val]
    | cons y ys => simp only [addP, val, ih, Nat.mul_add]; omega
theorem val_mapP (b x : Nat) (ys : List Nat) : val b (ys.map (x * ·)) = x * val b ys := by
  induction ys with
  | nil => simp [val]
  | cons y ys ih => simp only [List.map_cons, val, ih, Nat.mul_add]; rw [Nat.mul_left_comm]
theorem val_mulL (b : Nat) (xs ys : List Nat) : val b (mulL xs ys) = val b xs * val b ys := by
  induction xs with
  | nil => rw [mulL, val_zeros]; simp [val]
  | cons x xs ih => simp only [mulL, val_addP, val_mapP, val, ih, Nat.add_mul]; rw [Nat.zero_add, Nat.mul_assoc]

/-- What the row of products is: each place the product of both. -/
def Prod (S T : Nat → FP) (n i : Nat) (zs : List Nat) : Prop :=
  zs.length = n ∧ (∀ v ∈ zs, v < 18446744069414584321) ∧ ∀ j (hj : j < zs.length), ph zs[j] = if j < i then S j * T j else S j
theorem Prod.start {S T : Nat → FP} {n : Nat} {zs : List Nat} (h : Row S n zs) : Prod S T n 0 zs := ⟨h.1, h.2.1, fun j hj => by rw [if_neg (by omega)]; exact h.2.2 j hj⟩
theorem Prod.step {S T : Nat → FP} {n i a : Nat} {zs : List Nat} (h : Prod S T n i zs) (ha : a < 18446744069414584321) (ea : ph a = S i * T i) : Prod S T n (i + 1) (zs.set i a) := by
  refine ⟨by simpa using h.1, fun v hv => ?_, fun j hj => ?_⟩
  · rcases List.mem_or_eq_of_mem_set hv with hv | rfl
    · exact h.2.1 v hv
    · exact ha
  · rw [List.getElem_set]
    split
    · rename_i e; subst e; rw [if_pos (by omega)]; exact ea
    · rw [h.2.2 j (by simpa using hj)]
      by_cases h1 : j < i
      · rw [if_pos h1, if_pos (by omega)]
      · rw [if_neg h1, if_neg (by omega)]
theorem Prod.done {S T : Nat → FP} {n : Nat} {zs : List Nat} (h : Prod S T n n zs) : Row (fun j => if j < n then S j * T j else 0) n zs := ⟨h.1, h.2.1, fun j hj => by
  have h1 := h.1
  rw [h.2.2 j hj, if_pos (by omega)]
  show _ = if j < n then S j * T j else 0
  rw [if_pos (by omega)]⟩
theorem fl_row {S : Nat → FP} {n : Nat} {zs : List Nat} (h : Row S n zs) : ∀ j, j < n → fl zs j = S j := fun j hj => by
  have hj2 : j < zs.length := by rw [h.1]; exact hj
  rw [← h.2.2 j hj2]
  unfold fl
  rw [List.getD_eq_getElem?_getD, List.getElem?_eq_getElem hj2]; rfl
end Go.Proofs.Ytogkfpbapjjgfaa
