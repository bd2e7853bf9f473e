/- Plain numbers: lists of digits in a base, their value, normal lists. No conditions. -/
import Derived.Test.YtogkfpbapjjgfaaDoorMem
namespace Go.Proofs.YtogkfpbapjjgfaaDoor

/-- The value of a list of digits in base b, the lowest first. -/
def val (b : Nat) : List Nat → Nat
  | [] => 0
  | x :: xs => x + b * val b xs

def Dig (b : Nat) (xs : List Nat) : Prop := ∀ x ∈ xs, x < b

theorem Dig.nil_ (b : Nat) : Dig b [] := fun _ h => by cases h
theorem Dig.cons_ {b x : Nat} {xs : List Nat} (h : x < b) (hs : Dig b xs) : Dig b (x :: xs) := fun y hy => by
  rcases List.mem_cons.1 hy with rfl | hy
  · exact h
  · exact hs y hy
theorem Dig.tail_ {b x : Nat} {xs : List Nat} (h : Dig b (x :: xs)) : Dig b xs := fun y hy => h y (List.mem_cons_of_mem _ hy)
theorem Dig.head_ {b x : Nat} {xs : List Nat} (h : Dig b (x :: xs)) : x < b := h x (List.mem_cons_self)
theorem Dig.at_ {b : Nat} {xs : List Nat} (h : Dig b xs) (k : Nat) (hk : k < xs.length) : xs[k] < b := h _ (List.getElem_mem hk)
theorem Dig.append_ {b : Nat} {xs ys : List Nat} (h : Dig b xs) (k : Dig b ys) : Dig b (xs ++ ys) := fun y hy => by
  rcases List.mem_append.1 hy with hy | hy
  · exact h y hy
  · exact k y hy
theorem Dig.take_ {b : Nat} {xs : List Nat} (h : Dig b xs) (n : Nat) : Dig b (xs.take n) := fun y hy => h y (List.mem_of_mem_take hy)
theorem Dig.drop_ {b : Nat} {xs : List Nat} (h : Dig b xs) (n : Nat) : Dig b (xs.drop n) := fun y hy => h y (List.mem_of_mem_drop hy)
theorem Dig.trim_ {b : Nat} {xs : List Nat} (h : Dig b xs) : Dig b (trimL xs) := by rw [← trimL_take]; exact h.take_ _
theorem Dig.zeros_ {b : Nat} (hb : 0 < b) (n : Nat) : Dig b (List.replicate n 0) := fun y hy => by rw [(List.mem_replicate.1 hy).2]; exact hb
theorem Dig.set_ {b : Nat} {xs : List Nat} (h : Dig b xs) (k x : Nat) (hx : x < b) : Dig b (xs.set k x) := fun y hy => by
  rcases List.mem_or_eq_of_mem_set hy with hy | rfl
  · exact h y hy
  · exact hx

theorem val_append (b : Nat) (xs ys : List Nat) : val b (xs ++ ys) = val b xs + b ^ xs.length * val b ys := by
  induction xs with
  | nil => simp [val]
  | cons x xs ih =>
    simp only [List.cons_append, val, ih, List.length_cons, Nat.pow_succ]
    rw [Nat.mul_add, Nat.mul_comm (b ^ xs.length) b, Nat.mul_assoc]; omega
theorem val_snoc (b : Nat) (xs : List Nat) (x : Nat) : val b (xs ++ [x]) = val b xs + b ^ xs.length * x := by
  rw [val_append]; simp [val]
theorem val_zeros (b n : Nat) : val b (List.replicate n 0) = 0 := by
  induction n with
  | zero => rfl
  | succ n ih => simp [List.replicate_succ, val, ih]
theorem val_lt (b : Nat) (xs : List Nat) (h : Dig b xs) : val b xs < b ^ xs.length := by
  induction xs with
  | nil => simp [val]
  | cons x xs ih =>
    have h1 := ih h.tail_
    have h2 := h.head_
    simp only [val, List.length_cons, Nat.pow_succ]
    have h3 : b * (val b xs + 1) ≤ b * b ^ xs.length := Nat.mul_le_mul_left _ h1
    rw [Nat.mul_comm (b ^ xs.length) b]
    rw [Nat.mul_add] at h3; omega
theorem val_set (b : Nat) (xs : List Nat) (i v : Nat) (h : i < xs.length) : val b (xs.set i v) + b ^ i * xs[i] = val b xs + b ^ i * v := by
  induction xs generalizing i with
  | nil => simp at h
  | cons x xs ih =>
    cases i with
    | zero => simp [val]; omega
    | succ i =>
      have := ih i (by simpa using h)
      simp only [List.set_cons_succ, val, List.getElem_cons_succ, Nat.pow_succ]
      have e := congrArg (b * ·) this
      simp only [Nat.mul_add] at e
      rw [Nat.mul_comm (b ^ i) b, Nat.mul_assoc, Nat.mul_assoc]
      omega
theorem val_take_succ (b : Nat) (xs : List Nat) (k : Nat) (h : k < xs.length) : val b (xs.take (k + 1)) = val b (xs.take k) + b ^ k * xs[k] := by
  rw [List.take_succ_eq_append_getElem h, val_snoc, List.length_take, Nat.min_eq_left (by omega)]
theorem val_trim (b : Nat) (xs : List Nat) : val b (trimL xs) = val b xs := by
  induction xs with
  | nil => rfl
  | cons x xs ih =>
    simp only [trimL]
    split
    · rename_i e
      rw [e] at ih
      simp only [val] at ih
      split
      · rename_i h0; subst h0; simp [val, ← ih]
      · simp [val, ← ih]
    · rename_i y ys e
      rw [e] at ih
      simp only [val] at ih ⊢; rw [ih]
theorem trimL_idem (xs : List Nat) : trimL (trimL xs) = trimL xs := by
  induction xs with
  | nil => rfl
  | cons x xs ih =>
    have e0 : trimL (x :: xs) = match trimL xs with
      | [] => if x = 0 then [] else [x]
      | y :: ys => x :: y :: ys := rfl
    rw [e0]
    cases e : trimL xs with
    | nil =>
      simp only []
      by_cases h : x = 0
      · simp [h, trimL]
      · simp [h, trimL]
    | cons y ys =>
      rw [e] at ih
      show trimL (x :: y :: ys) = x :: y :: ys
      have : trimL (x :: y :: ys) = match trimL (y :: ys) with
        | [] => if x = 0 then [] else [x]
        | y :: ys => x :: y :: ys := rfl
      rw [this, ih]

/-- zs is the normal list of digits of n. -/
def Num (b : Nat) (zs : List Nat) (n : Nat) : Prop := Dig b zs ∧ trimL zs = zs ∧ val b zs = n

theorem Num.of_trim {b : Nat} {xs : List Nat} (h : Dig b xs) : Num b (trimL xs) (val b xs) := ⟨h.trim_, trimL_idem _, val_trim _ _⟩

theorem trimL_nil_of_val {b : Nat} (hb : 0 < b) {xs : List Nat} (h : val b xs = 0) : trimL xs = [] := by
  induction xs with
  | nil => rfl
  | cons x xs ih =>
    simp only [val] at h
    have h1 : b * val b xs = 0 := by omega
    rcases Nat.mul_eq_zero.1 h1 with h1 | h1
    · omega
    · have hx : x = 0 := by omega
      simp only [trimL, ih h1, hx, if_true]
theorem trimL_unique {b : Nat} (hb : 0 < b) {xs ys : List Nat} (hx : Dig b xs) (hy : Dig b ys) (h : val b xs = val b ys) : trimL xs = trimL ys := by
  induction xs generalizing ys with
  | nil => rw [trimL_nil_of_val hb (xs := ys) (by rw [← h]; rfl)]; rfl
  | cons x xs ih =>
    cases ys with
    | nil => rw [trimL_nil_of_val hb (xs := x :: xs) (by rw [h]; rfl)]; rfl
    | cons y ys =>
      simp only [val] at h
      have hx1 := hx.head_
      have hy1 := hy.head_
      have e1 : x = y := by
        have a : (x + b * val b xs) % b = x := by rw [Nat.add_mul_mod_self_left, Nat.mod_eq_of_lt hx1]
        have c : (y + b * val b ys) % b = y := by rw [Nat.add_mul_mod_self_left, Nat.mod_eq_of_lt hy1]
        rw [← a, ← c, h]
      subst e1
      have e2 : val b xs = val b ys := Nat.eq_of_mul_eq_mul_left hb (by omega)
      simp only [trimL, ih hx.tail_ hy.tail_ e2]
theorem Num.unique {b : Nat} (hb : 0 < b) {xs ys : List Nat} {n : Nat} (h : Num b xs n) (k : Num b ys n) : xs = ys := by
  rw [← h.2.1, ← k.2.1]; exact trimL_unique hb h.1 k.1 (h.2.2.trans k.2.2.symm)
theorem Num.zero_ (b : Nat) : Num b [] 0 := ⟨Dig.nil_ b, rfl, rfl⟩
theorem Num.nil_iff {b : Nat} (hb : 0 < b) {zs : List Nat} {n : Nat} (h : Num b zs n) : zs = [] ↔ n = 0 := by
  constructor
  · rintro rfl; exact h.2.2.symm
  · intro e; subst e; exact Num.unique hb h (Num.zero_ b)
theorem trimL_last {xs : List Nat} (h : trimL xs = xs) (hn : xs ≠ []) : xs[xs.length - 1]'(by cases xs with | nil => exact absurd rfl hn | cons _ _ => simp) ≠ 0 := by
  have hl : 0 < xs.length := by cases xs with | nil => exact absurd rfl hn | cons _ _ => simp
  intro h0
  have e : xs = xs.take (xs.length - 1) ++ [xs[xs.length - 1]] := by
    rw [← List.take_succ_eq_append_getElem (by omega), show xs.length - 1 + 1 = xs.length from by omega, List.take_length]
  rw [h0] at e
  have : trimL xs = trimL (xs.take (xs.length - 1)) := by
    conv => lhs; rw [e]
    rw [trimL_snoc_zero]
  have hle := trimL_length_le (xs.take (xs.length - 1))
  rw [← this, h, List.length_take] at hle
  omega
theorem Num.ge {b : Nat} {zs : List Nat} {n : Nat} (h : Num b zs n) (hn : zs ≠ []) : b ^ (zs.length - 1) ≤ n := by
  have hl : 0 < zs.length := by cases zs with | nil => exact absurd rfl hn | cons _ _ => simp
  have h0 := trimL_last h.2.1 hn
  have e : zs = zs.take (zs.length - 1) ++ [zs[zs.length - 1]] := by
    rw [← List.take_succ_eq_append_getElem (by omega), show zs.length - 1 + 1 = zs.length from by omega, List.take_length]
  rw [← h.2.2]
  conv => rhs; rw [e]
  rw [val_snoc, List.length_take, Nat.min_eq_left (by omega)]
  have : b ^ (zs.length - 1) * 1 ≤ b ^ (zs.length - 1) * zs[zs.length - 1] := Nat.mul_le_mul_left _ (by omega)
  omega
theorem Num.lt {b : Nat} {zs : List Nat} {n : Nat} (h : Num b zs n) : n < b ^ zs.length := by rw [← h.2.2]; exact val_lt b zs h.1
end Go.Proofs.YtogkfpbapjjgfaaDoor
