/- The reckoner's tables: what is put is found. No conditions. -/
import Derived.Test.YtadpelhmjmamnaaGreatDoorEvG
namespace Go.Proofs.YtadpelhmjmamnaaGreatDoor.Ev
open Go

namespace PT
variable {α β : Type}
theorem get_nil (i : Nat) : (nil : PT α).get i = none := rfl
theorem get_node (l : PT α) (v : Option α) (r : PT α) (i : Nat) : (node l v r).get i = Bool.rec (motive := fun _ => Option α) (Bool.rec (motive := fun _ => Option α) (r.get (Nat.sub (Nat.div i 2) 1)) (l.get (Nat.div i 2)) (Nat.beq (Nat.mod i 2) 1)) v (Nat.beq i 0) := rfl
theorem get_zero (l : PT α) (v : Option α) (r : PT α) : (node l v r).get 0 = v := rfl
theorem get_odd (l : PT α) (v : Option α) (r : PT α) (m : Nat) : (node l v r).get (2 * m + 1) = l.get m := by
  rw [get_node]
  have h1 : Nat.beq (2 * m + 1) 0 = false := rfl
  have h2 : Nat.mod (2 * m + 1) 2 = 1 := by show (2 * m + 1) % 2 = 1; omega
  have h3 : Nat.div (2 * m + 1) 2 = m := by show (2 * m + 1) / 2 = m; omega
  rw [h1, h2, h3]; rfl
theorem get_even (l : PT α) (v : Option α) (r : PT α) (m : Nat) : (node l v r).get (2 * m + 2) = r.get m := by
  rw [get_node]
  have h1 : Nat.beq (2 * m + 2) 0 = false := rfl
  have h2 : Nat.mod (2 * m + 2) 2 = 0 := by show (2 * m + 2) % 2 = 0; omega
  have h3 : Nat.div (2 * m + 2) 2 = m + 1 := by show (2 * m + 2) / 2 = m + 1; omega
  rw [h1, h2, h3]; rfl
theorem three (i : Nat) : i = 0 ∨ (∃ m, i = 2 * m + 1) ∨ ∃ m, i = 2 * m + 2 := by
  rcases Nat.eq_zero_or_pos i with h | h
  · exact .inl h
  · rcases Nat.mod_two_eq_zero_or_one i with h2 | h2
    · exact .inr (.inr ⟨i / 2 - 1, by omega⟩)
    · exact .inr (.inl ⟨i / 2, by omega⟩)
theorem setK_zero (l : PT α) (v : Option α) (r : PT α) (x : α) (k : PT α → β) (e : β) : (node l v r).setK 0 x k e = Option.rec (motive := fun _ => β) e (fun _ => k (node l (some x) r)) v := rfl
theorem setK_node (l : PT α) (v : Option α) (r : PT α) (i : Nat) (x : α) (k : PT α → β) (e : β) : (node l v r).setK i x k e = Bool.rec (motive := fun _ => β) (Bool.rec (motive := fun _ => β) (r.setK (Nat.sub (Nat.div i 2) 1) x (fun r' => k (node l v r')) e) (l.setK (Nat.div i 2) x (fun l' => k (node l' v r)) e) (Nat.beq (Nat.mod i 2) 1))
      (Option.rec (motive := fun _ => β) e (fun _ => k (node l (some x) r)) v) (Nat.beq i 0) := rfl
theorem setK_odd (l : PT α) (v : Option α) (r : PT α) (m : Nat) (x : α) (k : PT α → β) (e : β) : (node l v r).setK (2 * m + 1) x k e = l.setK m x (fun l' => k (node l' v r)) e := by
  have h2 : Nat.mod (2 * m + 1) 2 = 1 := by show (2 * m + 1) % 2 = 1; omega
  have h3 : Nat.div (2 * m + 1) 2 = m := by show (2 * m + 1) / 2 = m; omega
  rw [setK_node, h2, h3]; rfl
theorem setK_even (l : PT α) (v : Option α) (r : PT α) (m : Nat) (x : α) (k : PT α → β) (e : β) : (node l v r).setK (2 * m + 2) x k e = r.setK m x (fun r' => k (node l v r')) e := by
  have h2 : Nat.mod (2 * m + 2) 2 = 0 := by show (2 * m + 2) % 2 = 0; omega
  have h3 : Nat.div (2 * m + 2) 2 = m + 1 := by show (2 * m + 2) / 2 = m + 1; omega
  rw [setK_node, h2, h3]; rfl
/-- Putting fails, or goes on with a table that holds x there, something having stood there. -/
theorem setK_spec (t : PT α) : ∀ (i : Nat) (x : α), (∀ (γ : Type) (k : PT α → γ) (e : γ), t.setK i x k e = e) ∨
    ∃ t' y, (∀ (γ : Type) (k : PT α → γ) (e : γ), t.setK i x k e = k t') ∧ t.get i = some y ∧ ∀ j, t'.get j = if j = i then some x else t.get j := by
  induction t with
  | nil => intro i x; exact .inl fun γ k e => rfl
  | node l v r ihl ihr =>
    intro i x
    rcases three i with rfl | ⟨m, rfl⟩ | ⟨m, rfl⟩
    · cases v with
      | none => exact .inl fun γ k e => rfl
      | some y =>
        refine .inr ⟨node l (some x) r, y, fun γ k e => rfl, rfl, fun j => ?_⟩
        rcases three j with rfl | ⟨n, rfl⟩ | ⟨n, rfl⟩
        · simp [get_zero]
        · rw [get_odd, get_odd, if_neg (by omega)]
        · rw [get_even, get_even, if_neg (by omega)]
    · rcases ihl m x with h | ⟨t', y, h1, h2, h3⟩
      · exact .inl fun γ k e => by rw [setK_odd, h]
      · refine .inr ⟨node t' v r, y, fun γ k e => by rw [setK_odd, h1], by rw [get_odd, h2], fun j => ?_⟩
        rcases three j with rfl | ⟨n, rfl⟩ | ⟨n, rfl⟩
        · rw [get_zero, get_zero, if_neg (by omega)]
        · rw [get_odd, get_odd, h3]
          by_cases hn : n = m
          · rw [if_pos hn, if_pos (by omega)]
          · rw [if_neg hn, if_neg (by omega)]
        · rw [get_even, get_even, if_neg (by omega)]
    · rcases ihr m x with h | ⟨t', y, h1, h2, h3⟩
      · exact .inl fun γ k e => by rw [setK_even, h]
      · refine .inr ⟨node l v t', y, fun γ k e => by rw [setK_even, h1], by rw [get_even, h2], fun j => ?_⟩
        rcases three j with rfl | ⟨n, rfl⟩ | ⟨n, rfl⟩
        · rw [get_zero, get_zero, if_neg (by omega)]
        · rw [get_odd, get_odd, if_neg (by omega)]
        · rw [get_even, get_even, h3]
          by_cases hn : n = m
          · rw [if_pos hn, if_pos (by omega)]
          · rw [if_neg hn, if_neg (by omega)]
theorem insK_node (d : Nat) (l : PT α) (v : Option α) (r : PT α) (i : Nat) (x : Option α) (k : PT α → β) (e : β) : insK (d + 1) (node l v r) i x k e = Bool.rec (motive := fun _ => β) (Bool.rec (motive := fun _ => β) (insK d r (Nat.sub (Nat.div i 2) 1) x (fun r' => k (node l v r')) e) (insK d l (Nat.div i 2) x (fun l' => k (node l' v r)) e) (Nat.beq (Nat.mod i 2) 1)) (k (node l x r)) (Nat.beq i 0) := rfl
/-- Putting anywhere fails, or goes on with a table that holds x there. -/
theorem insK_spec : ∀ (d : Nat) (t : PT α) (i : Nat) (x : Option α), (∀ (γ : Type) (k : PT α → γ) (e : γ), insK d t i x k e = e) ∨
    ∃ t', (∀ (γ : Type) (k : PT α → γ) (e : γ), insK d t i x k e = k t') ∧ ∀ j, t'.get j = if j = i then x else t.get j := by
  intro d
  induction d with
  | zero => intro t i x; exact .inl fun γ k e => rfl
  | succ d ih =>
    have key : ∀ (l : PT α) (v : Option α) (r : PT α) (i : Nat) (x : Option α), (∀ (γ : Type) (k : PT α → γ) (e : γ), insK (d + 1) (node l v r) i x k e = e) ∨
        ∃ t', (∀ (γ : Type) (k : PT α → γ) (e : γ), insK (d + 1) (node l v r) i x k e = k t') ∧ ∀ j, t'.get j = if j = i then x else (node l v r).get j := by
      intro l v r i x
      rcases three i with rfl | ⟨m, rfl⟩ | ⟨m, rfl⟩
      · refine .inr ⟨node l x r, fun γ k e => rfl, fun j => ?_⟩
        rcases three j with rfl | ⟨n, rfl⟩ | ⟨n, rfl⟩
        · simp [get_zero]
        · rw [get_odd, get_odd, if_neg (by omega)]
        · rw [get_even, get_even, if_neg (by omega)]
      · have hstep : ∀ (γ : Type) (k : PT α → γ) (e : γ), insK (d + 1) (node l v r) (2 * m + 1) x k e = insK d l m x (fun l' => k (node l' v r)) e := fun γ k e => by
          have h2 : Nat.mod (2 * m + 1) 2 = 1 := by show (2 * m + 1) % 2 = 1; omega
          have h3 : Nat.div (2 * m + 1) 2 = m := by show (2 * m + 1) / 2 = m; omega
          rw [insK_node, h2, h3]; rfl
        rcases ih l m x with h | ⟨t', h1, h3⟩
        · exact .inl fun γ k e => by rw [hstep, h]
        · refine .inr ⟨node t' v r, fun γ k e => by rw [hstep, h1], fun j => ?_⟩
          rcases three j with rfl | ⟨n, rfl⟩ | ⟨n, rfl⟩
          · rw [get_zero, get_zero, if_neg (by omega)]
          · rw [get_odd, get_odd, h3]
            by_cases hn : n = m
            · rw [if_pos hn, if_pos (by omega)]
            · rw [if_neg hn, if_neg (by omega)]
          · rw [get_even, get_even, if_neg (by omega)]
      · have hstep : ∀ (γ : Type) (k : PT α → γ) (e : γ), insK (d + 1) (node l v r) (2 * m + 2) x k e = insK d r m x (fun r' => k (node l v r')) e := fun γ k e => by
          have h2 : Nat.mod (2 * m + 2) 2 = 0 := by show (2 * m + 2) % 2 = 0; omega
          have h3 : Nat.div (2 * m + 2) 2 = m + 1 := by show (2 * m + 2) / 2 = m + 1; omega
          rw [insK_node, h2, h3]; rfl
        rcases ih r m x with h | ⟨t', h1, h3⟩
        · exact .inl fun γ k e => by rw [hstep, h]
        · refine .inr ⟨node l v t', fun γ k e => by rw [hstep, h1], fun j => ?_⟩
          rcases three j with rfl | ⟨n, rfl⟩ | ⟨n, rfl⟩
          · rw [get_zero, get_zero, if_neg (by omega)]
          · rw [get_odd, get_odd, if_neg (by omega)]
          · rw [get_even, get_even, h3]
            by_cases hn : n = m
            · rw [if_pos hn, if_pos (by omega)]
            · rw [if_neg hn, if_neg (by omega)]
    intro t i x
    cases t with
    | node l v r => exact key l v r i x
    | nil =>
      have hnil : ∀ j, (node nil none nil : PT α).get j = (nil : PT α).get j := fun j => by
        rcases three j with rfl | ⟨n, rfl⟩ | ⟨n, rfl⟩
        · rfl
        · rw [get_odd]; rfl
        · rw [get_even]; rfl
      have hsame : ∀ (γ : Type) (k : PT α → γ) (e : γ), insK (d + 1) (nil : PT α) i x k e = insK (d + 1) (node nil none nil) i x k e := fun γ k e => rfl
      rcases key nil none nil i x with h | ⟨t', h1, h3⟩
      · exact .inl fun γ k e => by rw [hsame, h]
      · exact .inr ⟨t', fun γ k e => by rw [hsame, h1], fun j => by rw [h3, hnil]⟩
theorem full_get (x : α) : ∀ (d n j : Nat) (y : α), (full x d n).get j = some y → y = x ∧ j < n := by
  intro d
  induction d with
  | zero => intro n j y h; cases h
  | succ d ih =>
    intro n j y h
    have hf : full x (d + 1) n = cond (Nat.beq n 0) nil (node (full x d (n / 2)) (some x) (full x d ((n - 1) / 2))) := rfl
    rw [hf] at h
    cases n with
    | zero => cases h
    | succ n =>
      have : Nat.beq (n + 1) 0 = false := rfl
      rw [this] at h
      simp only [cond_false] at h
      rcases three j with rfl | ⟨m, rfl⟩ | ⟨m, rfl⟩
      · rw [get_zero] at h; simp only [Option.some.injEq] at h; exact ⟨h.symm, by omega⟩
      · rw [get_odd] at h; obtain ⟨h1, h2⟩ := ih _ _ _ h; exact ⟨h1, by omega⟩
      · rw [get_even] at h; obtain ⟨h1, h2⟩ := ih _ _ _ h; exact ⟨h1, by omega⟩
end PT
section
variable {β : Type}
theorem forceN_eq (n : Nat) (k : Nat → β) : forceN n k = k n := by cases n <;> rfl
theorem forceI_eq (n : Int) (k : Int → β) : forceI n k = k n := by
  cases n with
  | ofNat m => exact forceN_eq m (fun m => k (.ofNat m))
  | negSucc m => exact forceN_eq m (fun m => k (.negSucc m))
theorem forceB_eq (b : Bool) (k : Bool → β) : forceB b k = k b := by cases b <;> rfl
theorem forceV_eq (v : Value) (k : Value → β) : forceV v k = k v := by
  unfold forceV
  split
  · exact forceI_eq _ _
  · exact forceB_eq _ _
  · simp only [forceN_eq]
  · simp only [forceN_eq]
  · rfl
  · rfl
end
end Go.Proofs.YtadpelhmjmamnaaGreatDoor.Ev
