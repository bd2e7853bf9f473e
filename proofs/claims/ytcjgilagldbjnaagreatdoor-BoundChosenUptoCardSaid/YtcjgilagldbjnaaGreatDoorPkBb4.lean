/- The reckoner's tables: what is put is found. The reckoner's values and memory, and the program's: one by . The reckoner's lists, loads and stores. The reckoner: what it means that memory has grown, or been w. The reckoner: operations that make, load and store. -/
import Derived.Test.YtcjgilagldbjnaaGreatDoorPkBb3
import Derived.Below
import Derived.Laws.Cells
import Derived.Laws.CopyRow
import Derived.OrdersIn
import Derived.RangeFuncLeaves
import Derived.RangeFuncNested
namespace Go.Proofs.YtcjgilagldbjnaaGreatDoor
section
namespace Ev
open Go
namespace PT
variable {α β : Type}
theorem get_nil (i : Nat) : (nil : PT α).get i = none := rfl
theorem get_node (l : PT α) (v : Option α) (r : PT α) (i : Nat) : (node l v r).get i = Bool.rec (motive := fun _ => Option α) (Bool.rec (motive := fun _ => Option α) (r.get (Nat.sub (Nat.div i 2) 1)) (l.get (Nat.div i 2)) (Nat.beq (Nat.mod i 2) 1)) v (Nat.beq i 0) := rfl
theorem get_zero (l : PT α) (v : Option α) (r : PT α) : (node l v r).get 0 = v := rfl
theorem get_odd (l : PT α) (v : Option α) (r : PT α) (m : Nat) : (node l v r).get (2 * m + 1) = l.get m := by
 rw [get_node]
 have h1 : Nat.beq (2 * m + 1) 0 = false := rfl
 have h2 : Nat.mod (2 * m + 1) 2 = 1 := by show (2 * m + 1) % 2 = 1; omega
 have h3 : Nat.div (2 * m + 1) 2 = m := by show (2 * m + 1) / 2 = m; omega
 rw [h1, h2, h3]; rfl
theorem get_even (l : PT α) (v : Option α) (r : PT α) (m : Nat) : (node l v r).get (2 * m + 2) = r.get m := by
 rw [get_node]
 have h1 : Nat.beq (2 * m + 2) 0 = false := rfl
 have h2 : Nat.mod (2 * m + 2) 2 = 0 := by show (2 * m + 2) % 2 = 0; omega
 have h3 : Nat.div (2 * m + 2) 2 = m + 1 := by show (2 * m + 2) / 2 = m + 1; omega
 rw [h1, h2, h3]; rfl
theorem three (i : Nat) : i = 0 ∨ (∃ m, i = 2 * m + 1) ∨ ∃ m, i = 2 * m + 2 := by
 rcases Nat.eq_zero_or_pos i with h | h
 ·exact .inl h
 ·rcases Nat.mod_two_eq_zero_or_one i with h2 | h2
  ·exact .inr (.inr ⟨i / 2 - 1, by omega⟩)
  ·exact .inr (.inl ⟨i / 2, by omega⟩)
theorem setK_zero (l : PT α) (v : Option α) (r : PT α) (x : α) (k : PT α → β) (e : β) : (node l v r).setK 0 x k e = Option.rec (motive := fun _ => β) e (fun _ => k (node l (some x) r)) v := rfl
theorem setK_node (l : PT α) (v : Option α) (r : PT α) (i : Nat) (x : α) (k : PT α → β) (e : β) : (node l v r).setK i x k e = Bool.rec (motive := fun _ => β) (Bool.rec (motive := fun _ => β) (r.setK (Nat.sub (Nat.div i 2) 1) x (fun r' => k (node l v r')) e) (l.setK (Nat.div i 2) x (fun l' => k (node l' v r)) e) (Nat.beq (Nat.mod i 2) 1))
   (Option.rec (motive := fun _ => β) e (fun _ => k (node l (some x) r)) v) (Nat.beq i 0) := rfl
theorem setK_odd (l : PT α) (v : Option α) (r : PT α) (m : Nat) (x : α) (k : PT α → β) (e : β) : (node l v r).setK (2 * m + 1) x k e = l.setK m x (fun l' => k (node l' v r)) e := by
 have h2 : Nat.mod (2 * m + 1) 2 = 1 := by show (2 * m + 1) % 2 = 1; omega
 have h3 : Nat.div (2 * m + 1) 2 = m := by show (2 * m + 1) / 2 = m; omega
 rw [setK_node, h2, h3]; rfl
theorem setK_even (l : PT α) (v : Option α) (r : PT α) (m : Nat) (x : α) (k : PT α → β) (e : β) : (node l v r).setK (2 * m + 2) x k e = r.setK m x (fun r' => k (node l v r')) e := by
 have h2 : Nat.mod (2 * m + 2) 2 = 0 := by show (2 * m + 2) % 2 = 0; omega
 have h3 : Nat.div (2 * m + 2) 2 = m + 1 := by show (2 * m + 2) / 2 = m + 1; omega
 rw [setK_node, h2, h3]; rfl
theorem setK_spec (t : PT α) : ∀ (i : Nat) (x : α), (∀ (γ : Type) (k : PT α → γ) (e : γ), t.setK i x k e = e) ∨
  ∃ t' y, (∀ (γ : Type) (k : PT α → γ) (e : γ), t.setK i x k e = k t') ∧ t.get i = some y ∧ ∀ j, t'.get j = if j = i then some x else t.get j := by
 induction t with
 | nil => intro i x; exact .inl fun γ k e => rfl
 | node l v r ihl ihr =>
  intro i x
  rcases three i with rfl | ⟨m, rfl⟩ | ⟨m, rfl⟩
  ·cases v with
   | none => exact .inl fun γ k e => rfl
   | some y =>
    refine .inr ⟨node l (some x) r, y, fun γ k e => rfl, rfl, fun j => ?_⟩
    rcases three j with rfl | ⟨n, rfl⟩ | ⟨n, rfl⟩
    ·simp [get_zero]
    ·rw [get_odd, get_odd, if_neg (by omega)]
    ·rw [get_even, get_even, if_neg (by omega)]
  ·rcases ihl m x with h | ⟨t', y, h1, h2, h3⟩
   ·exact .inl fun γ k e => by rw [setK_odd, h]
   ·refine .inr ⟨node t' v r, y, fun γ k e => by rw [setK_odd, h1], by rw [get_odd, h2], fun j => ?_⟩
    rcases three j with rfl | ⟨n, rfl⟩ | ⟨n, rfl⟩
    ·rw [get_zero, get_zero, if_neg (by omega)]
    ·rw [get_odd, get_odd, h3]
     by_cases hn : n = m
     ·rw [if_pos hn, if_pos (by omega)]
     ·rw [if_neg hn, if_neg (by omega)]
    ·rw [get_even, get_even, if_neg (by omega)]
  ·rcases ihr m x with h | ⟨t', y, h1, h2, h3⟩
   ·exact .inl fun γ k e => by rw [setK_even, h]
   ·refine .inr ⟨node l v t', y, fun γ k e => by rw [setK_even, h1], by rw [get_even, h2], fun j => ?_⟩
    rcases three j with rfl | ⟨n, rfl⟩ | ⟨n, rfl⟩
    ·rw [get_zero, get_zero, if_neg (by omega)]
    ·rw [get_odd, get_odd, if_neg (by omega)]
    ·rw [get_even, get_even, h3]
     by_cases hn : n = m
     ·rw [if_pos hn, if_pos (by omega)]
     ·rw [if_neg hn, if_neg (by omega)]
theorem insK_node (d : Nat) (l : PT α) (v : Option α) (r : PT α) (i : Nat) (x : Option α) (k : PT α → β) (e : β) : insK (d + 1) (node l v r) i x k e = Bool.rec (motive := fun _ => β) (Bool.rec (motive := fun _ => β) (insK d r (Nat.sub (Nat.div i 2) 1) x (fun r' => k (node l v r')) e) (insK d l (Nat.div i 2) x (fun l' => k (node l' v r)) e) (Nat.beq (Nat.mod i 2) 1)) (k (node l x r)) (Nat.beq i 0) := rfl
theorem insK_spec : ∀ (d : Nat) (t : PT α) (i : Nat) (x : Option α), (∀ (γ : Type) (k : PT α → γ) (e : γ), insK d t i x k e = e) ∨
  ∃ t', (∀ (γ : Type) (k : PT α → γ) (e : γ), insK d t i x k e = k t') ∧ ∀ j, t'.get j = if j = i then x else t.get j := by
 intro d
 induction d with
 | zero => intro t i x; exact .inl fun γ k e => rfl
 | succ d ih =>
  have key : ∀ (l : PT α) (v : Option α) (r : PT α) (i : Nat) (x : Option α), (∀ (γ : Type) (k : PT α → γ) (e : γ), insK (d + 1) (node l v r) i x k e = e) ∨
    ∃ t', (∀ (γ : Type) (k : PT α → γ) (e : γ), insK (d + 1) (node l v r) i x k e = k t') ∧ ∀ j, t'.get j = if j = i then x else (node l v r).get j := by
   intro l v r i x
   rcases three i with rfl | ⟨m, rfl⟩ | ⟨m, rfl⟩
   ·refine .inr ⟨node l x r, fun γ k e => rfl, fun j => ?_⟩
    rcases three j with rfl | ⟨n, rfl⟩ | ⟨n, rfl⟩
    ·simp [get_zero]
    ·rw [get_odd, get_odd, if_neg (by omega)]
    ·rw [get_even, get_even, if_neg (by omega)]
   ·have hstep : ∀ (γ : Type) (k : PT α → γ) (e : γ), insK (d + 1) (node l v r) (2 * m + 1) x k e = insK d l m x (fun l' => k (node l' v r)) e := fun γ k e => by
     have h2 : Nat.mod (2 * m + 1) 2 = 1 := by show (2 * m + 1) % 2 = 1; omega
     have h3 : Nat.div (2 * m + 1) 2 = m := by show (2 * m + 1) / 2 = m; omega
     rw [insK_node, h2, h3]; rfl
    rcases ih l m x with h | ⟨t', h1, h3⟩
    ·exact .inl fun γ k e => by rw [hstep, h]
    ·refine .inr ⟨node t' v r, fun γ k e => by rw [hstep, h1], fun j => ?_⟩
     rcases three j with rfl | ⟨n, rfl⟩ | ⟨n, rfl⟩
     ·rw [get_zero, get_zero, if_neg (by omega)]
     ·rw [get_odd, get_odd, h3]
      by_cases hn : n = m
      ·rw [if_pos hn, if_pos (by omega)]
      ·rw [if_neg hn, if_neg (by omega)]
     ·rw [get_even, get_even, if_neg (by omega)]
   ·have hstep : ∀ (γ : Type) (k : PT α → γ) (e : γ), insK (d + 1) (node l v r) (2 * m + 2) x k e = insK d r m x (fun r' => k (node l v r')) e := fun γ k e => by
     have h2 : Nat.mod (2 * m + 2) 2 = 0 := by show (2 * m + 2) % 2 = 0; omega
     have h3 : Nat.div (2 * m + 2) 2 = m + 1 := by show (2 * m + 2) / 2 = m + 1; omega
     rw [insK_node, h2, h3]; rfl
    rcases ih r m x with h | ⟨t', h1, h3⟩
    ·exact .inl fun γ k e => by rw [hstep, h]
    ·refine .inr ⟨node l v t', fun γ k e => by rw [hstep, h1], fun j => ?_⟩
     rcases three j with rfl | ⟨n, rfl⟩ | ⟨n, rfl⟩
     ·rw [get_zero, get_zero, if_neg (by omega)]
     ·rw [get_odd, get_odd, if_neg (by omega)]
     ·rw [get_even, get_even, h3]
      by_cases hn : n = m
      ·rw [if_pos hn, if_pos (by omega)]
      ·rw [if_neg hn, if_neg (by omega)]
  intro t i x
  cases t with
  | node l v r => exact key l v r i x
  | nil =>
   have hnil : ∀ j, (node nil none nil : PT α).get j = (nil : PT α).get j := fun j => by
    rcases three j with rfl | ⟨n, rfl⟩ | ⟨n, rfl⟩
    ·rfl
    ·rw [get_odd]; rfl
    ·rw [get_even]; rfl
   have hsame : ∀ (γ : Type) (k : PT α → γ) (e : γ), insK (d + 1) (nil : PT α) i x k e = insK (d + 1) (node nil none nil) i x k e := fun γ k e => rfl
   rcases key nil none nil i x with h | ⟨t', h1, h3⟩
   ·exact .inl fun γ k e => by rw [hsame, h]
   ·exact .inr ⟨t', fun γ k e => by rw [hsame, h1], fun j => by rw [h3, hnil]⟩
theorem full_get (x : α) : ∀ (d n j : Nat) (y : α), (full x d n).get j = some y → y = x ∧ j < n := by
 intro d
 induction d with
 | zero => intro n j y h; cases h
 | succ d ih =>
  intro n j y h
  have hf : full x (d + 1) n = cond (Nat.beq n 0) nil (node (full x d (n / 2)) (some x) (full x d ((n - 1) / 2))) := rfl
  rw [hf] at h
  cases n with
  | zero => cases h
  | succ n =>
   have : Nat.beq (n + 1) 0 = false := rfl
   rw [this] at h
   simp only [cond_false] at h
   rcases three j with rfl | ⟨m, rfl⟩ | ⟨m, rfl⟩
   ·rw [get_zero] at h; simp only [Option.some.injEq] at h; exact ⟨h.symm, by omega⟩
   ·rw [get_odd] at h; obtain ⟨h1, h2⟩ := ih _ _ _ h; exact ⟨h1, by omega⟩
   ·rw [get_even] at h; obtain ⟨h1, h2⟩ := ih _ _ _ h; exact ⟨h1, by omega⟩
end PT
section
variable {β : Type}
theorem forceN_eq (n : Nat) (k : Nat → β) : forceN n k = k n := by cases n <;> rfl
theorem forceI_eq (n : Int) (k : Int → β) : forceI n k = k n := by
 cases n with
 | ofNat m => exact forceN_eq m (fun m => k (.ofNat m))
 | negSucc m => exact forceN_eq m (fun m => k (.negSucc m))
theorem forceB_eq (b : Bool) (k : Bool → β) : forceB b k = k b := by cases b <;> rfl
theorem forceV_eq (v : Value) (k : Value → β) : forceV v k = k v := by
 unfold forceV
 split
 ·exact forceI_eq _ _
 ·exact forceB_eq _ _
 ·simp only [forceN_eq]
 ·simp only [forceN_eq]
 ·rfl
 ·rfl
end
end Ev
end
section
namespace Ev
open Go Go.RowKit
abbrev Env := Nat → Option (Nat × Nat)
inductive VR (ρ : Env) : Value → Value → Prop where
 | bool (b) : VR ρ (.bool b) (.bool b)
 | int (k n) : VR ρ (.int k n) (.int k n)
 | float (k n) : VR ρ (.float k n) (.float k n)
 | complex (k a b) : VR ρ (.complex k a b) (.complex k a b)
 | string (s) : VR ρ (.string s) (.string s)
 | nilp : VR ρ (.pointer none) (.pointer none)
 | ptr {n o s a C} : ρ n = some (a, C) → VR ρ (.pointer (some ⟨n, o, s⟩)) (.pointer (some ⟨a, o, none⟩))
 | nils (l c) : VR ρ (.slice none l c) (.slice none l c)
 | sl {n o l c a C} : ρ n = some (a, C) → VR ρ (.slice (some ⟨n, o, none⟩) l c) (.slice (some ⟨a, o, none⟩) l c)
 | soft {n o q l l' c a C} : ρ n = some (a, C) → l' = l → l ≤ c → (o = 0 → c = C) → VR ρ (.slice (some ⟨n, o, some q⟩) l l') (.slice (some ⟨a, o, none⟩) l c)
 | nilm : VR ρ (.map none) (.map none)
 | map {n a C} : ρ n = some (a, C) → VR ρ (.map (some n)) (.map (some a))
 | nilc : VR ρ (.chan none) (.chan none)
 | nilf : VR ρ .nilFunc .nilFunc
 | nili : VR ρ .nilIface .nilIface
 | iface {t u v} : VR ρ u v → VR ρ (.iface t u) (.iface t v)
 | agg {us vs : List Value} : us.length = vs.length → (∀ (i : Nat) (u v : Value), us[i]? = some u → vs[i]? = some v → VR ρ u v) → VR ρ (.agg ⟨us⟩) (.agg ⟨vs⟩)
 | tuple {us vs : List Value} : us.length = vs.length → (∀ (i : Nat) (u v : Value), us[i]? = some u → vs[i]? = some v → VR ρ u v) → VR ρ (.tuple ⟨us⟩) (.tuple ⟨vs⟩)
 | yld {n a C} : ρ n = some (a, C) → VR ρ (.func (.yield n) ⟨[]⟩ ⟨[]⟩) (.func (.yield a) ⟨[]⟩ ⟨[]⟩)
 | func {f} {us vs xs ys : List Value} : us.length = vs.length → (∀ (i : Nat) (u v : Value), us[i]? = some u → vs[i]? = some v → VR ρ u v) → xs.length = ys.length → (∀ (i : Nat) (u v : Value), xs[i]? = some u → ys[i]? = some v → VR ρ u v) →
   VR ρ (.func (.func f) ⟨us⟩ ⟨xs⟩) (.func (.func f) ⟨vs⟩ ⟨ys⟩)
 | meth {name : String} {us vs xs ys : List Value} : us.length = vs.length → (∀ (i : Nat) (u v : Value), us[i]? = some u → vs[i]? = some v → VR ρ u v) → xs.length = ys.length → (∀ (i : Nat) (u v : Value), xs[i]? = some u → ys[i]? = some v → VR ρ u v) →
   VR ρ (.func (.method name) ⟨us⟩ ⟨xs⟩) (.func (.method name) ⟨vs⟩ ⟨ys⟩)
def VL (ρ : Env) (us vs : List Value) : Prop := us.length = vs.length ∧ ∀ (i : Nat) (u v : Value), us[i]? = some u → vs[i]? = some v → VR ρ u v
def Ext (ρ ρ' : Env) : Prop := ∀ n p, ρ n = some p → ρ' n = some p
theorem Ext.refl (ρ : Env) : Ext ρ ρ := fun _ _ h => h
theorem Ext.trans {a b c : Env} (h : Ext a b) (k : Ext b c) : Ext a c := fun n p e => k n p (h n p e)
theorem VR.mono {ρ ρ' : Env} (h : Ext ρ ρ') {u v : Value} (r : VR ρ u v) : VR ρ' u v := by
 induction r with
 | ptr e => exact .ptr (h _ _ e)
 | sl e => exact .sl (h _ _ e)
 | soft e h1 h2 h3 => exact .soft (h _ _ e) h1 h2 h3
 | map e => exact .map (h _ _ e)
 | yld e => exact .yld (h _ _ e)
 | iface _ ih => exact .iface ih
 | agg hl _ ih => exact .agg hl ih
 | tuple hl _ ih => exact .tuple hl ih
 | func h1 _ h2 _ ih1 ih2 => exact .func h1 ih1 h2 ih2
 | meth h1 _ h2 _ ih1 ih2 => exact .meth h1 ih1 h2 ih2
 | _ => constructor
theorem VL.mono {ρ ρ' : Env} (h : Ext ρ ρ') {us vs : List Value} (r : VL ρ us vs) : VL ρ' us vs := ⟨r.1, fun i u v h1 h2 => (r.2 i u v h1 h2).mono h⟩
theorem VL.nil (ρ : Env) : VL ρ [] [] := ⟨rfl, fun i u v h => by simp at h⟩
theorem VL.cons {ρ : Env} {u v : Value} {us vs : List Value} (h : VR ρ u v) (r : VL ρ us vs) : VL ρ (u :: us) (v :: vs) :=
 ⟨by simp [r.1], fun i a b h1 h2 => by
  cases i with
  | zero => simp at h1 h2; subst h1; subst h2; exact h
  | succ i => simp at h1 h2; exact r.2 i a b h1 h2⟩
theorem VL.head {ρ : Env} {u v : Value} {us vs : List Value} (r : VL ρ (u :: us) (v :: vs)) : VR ρ u v ∧ VL ρ us vs :=
 ⟨r.2 0 u v rfl rfl, by have := r.1; simpa using this, fun i a b h1 h2 => r.2 (i + 1) a b (by simpa using h1) (by simpa using h2)⟩
theorem VL.nil_inv {ρ : Env} {vs : List Value} (r : VL ρ [] vs) : vs = [] := List.length_eq_zero_iff.1 r.1.symm
theorem VL.cons_inv {ρ : Env} {u : Value} {us vs : List Value} (r : VL ρ (u :: us) vs) : ∃ v vs', vs = v :: vs' ∧ VR ρ u v ∧ VL ρ us vs' := by
 cases vs with
 | nil => have := r.1; simp at this
 | cons v vs => exact ⟨v, vs, rfl, r.head.1, r.head.2⟩
theorem VL.append {ρ : Env} {a b c d : List Value} (h : VL ρ a b) (k : VL ρ c d) : VL ρ (a ++ c) (b ++ d) := by
 induction a generalizing b with
 | nil => obtain rfl := h.nil_inv; exact k
 | cons u us ih => obtain ⟨v, vs, rfl, h1, h2⟩ := h.cons_inv; exact .cons h1 (ih h2)
theorem VL.drop {ρ : Env} {a b : List Value} (h : VL ρ a b) (n : Nat) : VL ρ (a.drop n) (b.drop n) :=
 ⟨by simp [h.1], fun i u v h1 h2 => h.2 (n + i) u v (by simpa using h1) (by simpa using h2)⟩
theorem VL.take {ρ : Env} {a b : List Value} (h : VL ρ a b) (n : Nat) : VL ρ (a.take n) (b.take n) :=
 ⟨by simp [h.1], fun i u v h1 h2 => by
  simp only [List.getElem?_take] at h1 h2
  split at h1
  ·rename_i hi; rw [if_pos hi] at h2; exact h.2 i u v h1 h2
  ·cases h1⟩
theorem VL.at {ρ : Env} {a b : List Value} (h : VL ρ a b) {i : Nat} {u : Value} (hu : a[i]? = some u) : ∃ v, b[i]? = some v ∧ VR ρ u v := by
 have hi : i < a.length := (List.getElem?_eq_some_iff.1 hu).1
 have hb : i < b.length := by rw [← h.1]; exact hi
 exact ⟨b[i], List.getElem?_eq_getElem hb, h.2 i u _ hu (List.getElem?_eq_getElem hb)⟩
theorem flat_le : ∀ (n : Nat) (v : Value), flat n v = true → ∀ ρ, VR ρ v v := by
 intro n
 induction n with
 | zero => intro v h; cases h
 | succ n ih =>
  intro v h ρ
  have hl : ∀ (cs : List Value), cs.all (flat n) = true → ∀ (i : Nat) (u v : Value), cs[i]? = some u → cs[i]? = some v → VR ρ u v := fun cs hc i u v h1 h2 => by
   rw [h1] at h2; cases h2
   exact ih u (List.all_eq_true.1 hc u (List.mem_of_getElem? h1)) ρ
  cases v with
  | bool b => constructor
  | int k n => constructor
  | float k n => constructor
  | complex k a b => constructor
  | string s => constructor
  | pointer a => cases a with | none => constructor | some a => cases h
  | slice a l c => cases a with | none => constructor | some a => cases h
  | map r => cases r with | none => constructor | some a => cases h
  | chan r => cases r with | none => constructor | some a => cases h
  | nilFunc => constructor
  | nilIface => constructor
  | iface t v => exact .iface (ih v h ρ)
  | agg cs => obtain ⟨cs⟩ := cs; exact .agg rfl (hl cs h)
  | tuple cs => obtain ⟨cs⟩ := cs; exact .tuple rfl (hl cs h)
  | func f a b =>
   obtain ⟨a⟩ := a
   obtain ⟨b⟩ := b
   cases f with
   | func f =>
    have h' : (a.all (flat n) && b.all (flat n)) = true := h
    rw [Bool.and_eq_true] at h'
    exact .func rfl (hl a h'.1) rfl (hl b h'.2)
   | _ => cases h
def TR (ρ : Env) (T : PT Value) (tmps : Array Value) : Prop := ∀ i u, T.get i = some u → ∃ v, tmps[i]? = some v ∧ VR ρ u v
theorem TR.mono {ρ ρ' : Env} (h : Ext ρ ρ') {T : PT Value} {tmps : Array Value} (r : TR ρ T tmps) : TR ρ' T tmps := fun i u hu => let ⟨v, h1, h2⟩ := r i u hu; ⟨v, h1, h2.mono h⟩
def OR (P : Program) (ρ : Env) (C : Nat) (b : AB) (o : Option Obj) : Prop :=
 match b with
 | .cells g e l => ∃ cs : List Value, o = some (.cells ⟨cs⟩ e (0, 0)) ∧ VL ρ l (cs.take l.length) ∧ (g = false → cs.length = l.length) ∧ (g = true → ∃ sz, sizeO P e = some sz ∧ cs.length = C * sz)
 | .map l => ∃ es clock, o = some (.map es clock) ∧ VL ρ (l.map (·.1)) (es.toList.map (·.key)) ∧ VL ρ (l.map (·.2)) (es.toList.map (·.val))
 | .dfr => o = some (.deferred (some []))
 | .loop st pend T ps assign body d => ∃ fn tmps da D, o = some (.loop { state := st, pending := pend, fn, tmps, params := ps, assign, body, defers := da }) ∧ TR ρ T tmps ∧ ρ d = some (da, D)
theorem OR.mono {P : Program} {ρ ρ' : Env} (h : Ext ρ ρ') {C : Nat} {b : AB} {o : Option Obj} (r : OR P ρ C b o) : OR P ρ' C b o := by
 cases b with
 | cells g e l => obtain ⟨cs, h1, h2, h3⟩ := r; exact ⟨cs, h1, h2.mono h, h3⟩
 | map l => obtain ⟨es, c, h1, h2, h3⟩ := r; exact ⟨es, c, h1, h2.mono h, h3.mono h⟩
 | dfr => exact r
 | loop st pend T ps assign body d => obtain ⟨fn, tmps, da, D, h1, h2, h3⟩ := r; exact ⟨fn, tmps, da, D, h1, h2.mono h, h _ _ h3⟩
structure Sat (P : Program) (ρ : Env) (H : HP) (w : World) : Prop where
 blk : ∀ n b, H.get n = some b → ∃ a C, ρ n = some (a, C) ∧ OR P ρ C b w.heap[a]?
 inj : ∀ n m b c a C D, H.get n = some b → H.get m = some c → ρ n = some (a, C) → ρ m = some (a, D) → n = m
 lt : ∀ n a C, ρ n = some (a, C) → a < w.heap.size
theorem TR.set {ρ : Env} {T T' : PT Value} {tmps : Array Value} {d : Nat} {u v y : Value} (r : TR ρ T tmps) (hy : T.get d = some y) (hT : ∀ j, T'.get j = if j = d then some u else T.get j) (hv : VR ρ u v) : TR ρ T' (tmps.setIfInBounds d v) := fun i x hx => by
 rw [hT] at hx
 by_cases hi : i = d
 ·subst hi
  rw [if_pos rfl] at hx
  cases hx
  obtain ⟨z, hz, _⟩ := r i y hy
  have : i < tmps.size := by
   rcases Nat.lt_or_ge i tmps.size with h | h
   ·exact h
   ·simp [Array.getElem?_eq_none h] at hz
  exact ⟨v, by simp [this], hv⟩
 ·rw [if_neg hi] at hx
  obtain ⟨z, hz, hr⟩ := r i x hx
  exact ⟨z, by rw [Array.getElem?_setIfInBounds_ne (Ne.symm hi)]; exact hz, hr⟩
end Ev
end
section
namespace Ev
open Go Go.RowKit
section lists
variable {α β : Type}
theorem nth_eq : ∀ (l : List α) (i : Nat), nth l i = l[i]?
 | [], _ => rfl
 | x :: l, 0 => rfl
 | x :: l, i + 1 => (nth_eq l i).trans (by simp)
theorem dropN_eq : ∀ (l : List α) (i : Nat), dropN l i = l.drop i
 | [], i => by simp; rfl
 | x :: l, 0 => rfl
 | x :: l, i + 1 => (dropN_eq l i).trans (by simp)
theorem takeK_eq : ∀ (l : List α) (n : Nat) (k : List α → β) (e : β), takeK l n k e = if n ≤ l.length then k (l.take n) else e
 | [], 0, k, e => by simp; rfl
 | [], n + 1, k, e => by simp; rfl
 | x :: l, 0, k, e => by simp; rfl
 | x :: l, n + 1, k, e => by
  show takeK l n (fun l' => k (x :: l')) e = _
  rw [takeK_eq l n]
  simp
theorem layK_eq : ∀ (vs l : List α) (k : List α → β) (e : β), layK vs l k e = if vs.length ≤ l.length then k (vs ++ l.drop vs.length) else e
 | [], l, k, e => by simp; rfl
 | v :: vs, [], k, e => by simp; rfl
 | v :: vs, x :: l, k, e => by
  show layK vs l (fun l' => k (v :: l')) e = _
  rw [layK_eq vs l]
  simp
theorem spliceK_eq : ∀ (l : List α) (i : Nat) (vs : List α) (k : List α → β) (e : β), spliceK l i vs k e = if i + vs.length ≤ l.length then k (l.take i ++ vs ++ l.drop (i + vs.length)) else e
 | [], 0, vs, k, e => by show layK vs [] k e = _; rw [layK_eq]; simp
 | [], i + 1, vs, k, e => by show e = _; simp
 | x :: l, 0, vs, k, e => by show layK vs (x :: l) k e = _; rw [layK_eq]; simp
 | x :: l, i + 1, vs, k, e => by
  show spliceK l i vs (fun l' => k (x :: l')) e = _
  rw [spliceK_eq l i]
  have : i + 1 + vs.length = (i + vs.length) + 1 := by omega
  rw [this]
  simp
theorem appK_eq : ∀ (a b : List α) (k : List α → β), appK a b k = k (a ++ b)
 | [], b, k => rfl
 | x :: a, b, k => by show appK a b (fun l => k (x :: l)) = _; rw [appK_eq a b]; rfl
theorem repl_eq : ∀ (n : Nat) (z : List α), repl n z = (List.replicate n z).flatten
 | 0, z => rfl
 | n + 1, z => by show z ++ repl n z = _; rw [repl_eq n z]; simp [List.replicate_succ]
end lists
theorem cell_of {w : World} {a : Nat} {cs : List Value} {e : TypeId} {f : Nat × Nat} (h : w.heap[a]? = some (.cells ⟨cs⟩ e f)) (i : Nat) : w.cell? ⟨a, i, none⟩ = cs[i]? := by
 simp only [World.cell?, h]
 simp
theorem add_off (a o j : Nat) : (⟨a, o, none⟩ : Addr).add j = ⟨a, o + j, none⟩ := by
 unfold Addr.add
 split
 ·rename_i h; subst h; rfl
 ·rfl
theorem run_isAgg {P : Program} {t : TypeId} {b : Bool} (h : aggO P t = some b) (w : World) : (isAgg t).run P w = .ok b w := by
 unfold aggO at h
 simp only [isAgg, underlying, Sem.run_bind, run_program, Result.andThen_ok]
 cases hu : P.underlying t with
 | none => rw [hu] at h; cases h
 | some d => rw [hu] at h; cases d <;> simp at h <;> subst h <;> rfl
theorem run_sizeOf {P : Program} {t : TypeId} {s : Nat} (h : sizeO P t = some s) (w : World) : (sizeOf t).run P w = .ok s w := by
 unfold sizeO at h
 simp only [sizeOf, typeInfo, Sem.run_bind, run_program, Result.andThen_ok]
 cases hi : P.info? t with
 | none => rw [hi] at h; cases h
 | some i => rw [hi] at h; simp only [Option.some.injEq] at h; subst h; rfl
theorem run_loadCells_at {P : Program} {w : World} {a off s : Nat} {cs : List Value} {e : TypeId} {f : Nat × Nat} (h : w.heap[a]? = some (.cells ⟨cs⟩ e f)) (hs : off + s ≤ cs.length) :
  (loadCells ⟨a, off, none⟩ s).run P w = .ok ((cs.drop off).take s).toArray w := by
 have h1 := run_loadCells_list (P := P) w ⟨a, off, none⟩ ((cs.drop off).take s) (fun j v hv => by
  rw [add_off, cell_of h]
  rw [List.getElem?_take] at hv
  split at hv
  ·simpa using hv
  ·cases hv)
 have h2 : ((cs.drop off).take s).length = s := by simp; omega
 rwa [h2] at h1
theorem load_sound {P : Program} {β : Type} {ρ : Env} {H : HP} {w : World} {t n off a C : Nat} {k : Value → Rs β} {r : β} (hS : Sat P ρ H w) (hn : ρ n = some (a, C)) (h : loadC P H t n off k = .ok r) :
  ∃ u v, k u = .ok r ∧ (loadVar t ⟨a, off, none⟩).run P w = .ok v w ∧ VR ρ u v := by
 unfold loadC at h
 split at h
 ·rename_i g e l hb
  obtain ⟨a', C', h1, cs, h2, h3, h4, h5⟩ := hS.blk n _ hb
  rw [hn] at h1; cases h1
  have hlen : l.length ≤ cs.length := by have := h3.1; simp at this; omega
  split at h
  ·rename_i hagg
   split at h
   ·rename_i s hs
    rw [takeK_eq, dropN_eq] at h
    split at h
    ·rename_i hle
     simp only [List.length_drop] at hle
     have hos : s = 0 ∨ off + s ≤ l.length := by omega
     refine ⟨_, .agg ⟨(cs.drop off).take s⟩, h, ?_, ?_⟩
     ·have hc : (loadCells ⟨a, off, none⟩ s).run P w = .ok ((cs.drop off).take s).toArray w := by
       rcases hos with rfl | hos
       ·simp [loadCells, loadCellsFrom]
       ·exact run_loadCells_at h2 (by omega)
      simp only [loadVar, Sem.run_bind, run_isAgg hagg, Result.andThen_ok, if_true, run_sizeOf hs, hc]
      rfl
     ·have hv : VL ρ ((l.drop off).take s) ((cs.drop off).take s) := by
       rcases hos with rfl | hos
       ·simp; exact .nil ρ
       ·have := (h3.drop off).take s
        rwa [List.drop_take, List.take_take, Nat.min_eq_left (by omega)] at this
      exact .agg hv.1 hv.2
    ·cases h
   ·cases h
  ·rename_i hagg
   rw [nth_eq] at h
   split at h
   ·rename_i u hu
    obtain ⟨v, hv, hr⟩ := h3.at hu
    have hv' : cs[off]? = some v := by
     rw [List.getElem?_take] at hv
     split at hv
     ·exact hv
     ·cases hv
    refine ⟨u, v, h, ?_, hr⟩
    simp only [loadVar, Sem.run_bind, run_isAgg hagg, Result.andThen_ok]
    simp [cell_of h2, hv']
   ·cases h
  ·cases h
 ·cases h
theorem VR.one {ρ : Env} {u v : Value} (h : VR ρ u v) : oneC u = v.oneCell' := by cases h <;> rfl
theorem VR.cells {ρ : Env} {u v : Value} (h : VR ρ u v) : VL ρ u.cells.toList v.cells.toList := by
 cases h with
 | agg h1 h2 => exact ⟨h1, h2⟩
 | _ => exact .cons (by constructor <;> assumption) (.nil ρ)
theorem VL.one {ρ : Env} {us vs : List Value} (h : VL ρ us vs) (ho : us.all oneC = true) : ∀ v ∈ vs, v.oneCell' = true := fun v hv => by
 obtain ⟨i, hi, rfl⟩ := List.getElem_of_mem hv
 have hi' : i < us.length := by rw [h.1]; exact hi
 rw [← (h.2 i us[i] vs[i] (List.getElem?_eq_getElem hi') (List.getElem?_eq_getElem hi)).one]
 exact List.all_eq_true.1 ho _ (List.getElem_mem hi')
end Ev
end
section
namespace Ev
open Go Go.RowKit
structure Grew (P : Program) (ρ ρ' : Env) (N N' : Nat) (d : List (Nat × AB)) (w w' : World) : Prop where
 ext : Ext ρ ρ'
 same : ∀ n, n < N ∨ N' ≤ n → ρ' n = ρ n
 bel : Below w.heap.size w w'
 new : ∀ n p, N ≤ n → n < N' → ρ' n = some p → w.heap.size ≤ p.1 ∧ p.1 < w'.heap.size
 dom : ∀ p ∈ d, N ≤ p.1 ∧ p.1 < N'
 blk : ∀ p ∈ d, ∃ a C, ρ' p.1 = some (a, C) ∧ OR P ρ' C p.2 w'.heap[a]?
 inj : ∀ p ∈ d, ∀ q ∈ d, ∀ a C D, ρ' p.1 = some (a, C) → ρ' q.1 = some (a, D) → p.1 = q.1
structure Wrote (P : Program) (ρ ρ' : Env) (N N' lo : Nat) (H' : HP) (w w' : World) : Prop where
 ext : Ext ρ ρ'
 same : ∀ n, n < N ∨ N' ≤ n → ρ' n = ρ n
 sat : Sat P ρ' H' w'
 os : w'.os = w.os
 tape : w'.tape = w.tape
 output : w'.output = w.output
 size : w.heap.size ≤ w'.heap.size
 keep : ∀ x, x < w.heap.size → (∀ n p, lo ≤ n → n < N → ρ n = some p → p.1 ≠ x) → w'.heap[x]? = w.heap[x]?
 new : ∀ n p, N ≤ n → n < N' → ρ' n = some p → w.heap.size ≤ p.1 ∨ ∃ m q, lo ≤ m ∧ m < N ∧ ρ m = some q ∧ q.1 = p.1
 named : ∀ n b, H'.get n = some b → n < N'
def Free (ρ : Env) (N N' : Nat) : Prop := ∀ n, N ≤ n → n < N' → ρ n = none
def Dom (ρ : Env) (N : Nat) : Prop := ∀ n, N ≤ n → ρ n = none
theorem Dom.free {ρ : Env} {N : Nat} (h : Dom ρ N) (N' : Nat) : Free ρ N N' := fun n h1 _ => h n h1
theorem Dom.same {ρ ρ' : Env} {N N' : Nat} (h : Dom ρ N) (hle : N ≤ N') (hs : ∀ n, n < N ∨ N' ≤ n → ρ' n = ρ n) : Dom ρ' N' := fun n hn => (hs n (.inr hn)).trans (h n (by omega))
abbrev fe (ro : Option Nat) : Fence := { Fence.wide with round := ro }
def OpOk (P : Program) (o : Oper) (ρ : Env) (N : Nat) (out : Out) (a : Act) (w : World) : Prop :=
 match out with
 | .v u d N' => N ≤ N' ∧ (Dom ρ N → ∀ (ro : Option Nat) (m : Nat) (K : Act → World → Prop) (Q : Exit → Act → World → Prop),
   (∀ v w' ρ', Grew P ρ ρ' N N' d w w' → VR ρ' u v → K (a.put o.dst v) w') → o.wpIn (fe ro) m P a w K Q)
 | .w u H' N' lo => N ≤ N' ∧ (Dom ρ N → ∀ (ro : Option Nat) (m : Nat) (K : Act → World → Prop) (Q : Exit → Act → World → Prop),
   (∀ v w' ρ', Wrote P ρ ρ' N N' lo H' w w' → VR ρ' u v → K (a.put o.dst v) w') → o.wpIn (fe ro) m P a w K Q)
theorem Grew.refl (P : Program) (ρ : Env) (N : Nat) (w : World) : Grew P ρ ρ N N [] w w :=
 ⟨.refl ρ, fun _ _ => rfl, .refl _ _, fun n p h1 h2 => by omega, fun p h => by simp at h, fun p h => by simp at h, fun p h => by simp at h⟩
theorem Sat.ext {P : Program} {ρ : Env} {H : HP} {w w' : World} (h : Sat P ρ H w) (hb : Below w.heap.size w w') : Sat P ρ H w' :=
 ⟨fun n b hn => by
  obtain ⟨a, C, h1, h2⟩ := h.blk n b hn
  exact ⟨a, C, h1, by rw [hb.block a (h.lt n a C h1)]; exact h2⟩,
  h.inj, fun n a C hn => Nat.lt_of_lt_of_le (h.lt n a C hn) hb.size⟩
theorem Grew.sat {P : Program} {ρ ρ' : Env} {N N' : Nat} {d : List (Nat × AB)} {w w' : World} {H H' : HP} (g : Grew P ρ ρ' N N' d w w') (hS : Sat P ρ H w) (_ : Free ρ N N') (hH : ∀ n b, H'.get n = some b → (n, b) ∈ d ∨ H.get n = some b) : Sat P ρ' H' w' := by
 have hold : ∀ n b, H.get n = some b → ∃ a C, ρ n = some (a, C) ∧ ρ' n = some (a, C) ∧ OR P ρ' C b w'.heap[a]? ∧ a < w.heap.size := fun n b hn => by
  obtain ⟨a, C, h1, h2⟩ := hS.blk n b hn
  exact ⟨a, C, h1, g.ext _ _ h1, by rw [g.bel.block a (hS.lt n a C h1)]; exact h2.mono g.ext, hS.lt n a C h1⟩
 refine ⟨fun n b hn => ?_, fun n m b c a C D hn hm h1 h2 => ?_, fun n a C hn => ?_⟩
 ·rcases hH n b hn with h | h
  ·exact g.blk _ h
  ·obtain ⟨a, C, _, h2, h3, _⟩ := hold n b h
   exact ⟨a, C, h2, h3⟩
 ·rcases hH n b hn with h | h <;> rcases hH m c hm with k | k
  ·exact g.inj (n, b) h (m, c) k a C D h1 h2
  ·obtain ⟨a', C', e1, e2, _, hlt⟩ := hold m c k
   rw [h2] at e2; cases e2
   have := (g.new n _ (g.dom _ h).1 (g.dom _ h).2 h1).1
   simp only at this
   omega
  ·obtain ⟨a', C', e1, e2, _, hlt⟩ := hold n b h
   rw [h1] at e2; cases e2
   have := (g.new m _ (g.dom _ k).1 (g.dom _ k).2 h2).1
   simp only at this
   omega
  ·obtain ⟨a1, C1, e1, e2, _, _⟩ := hold n b h
   obtain ⟨a2, C2, e3, e4, _, _⟩ := hold m c k
   rw [h1] at e2; cases e2
   rw [h2] at e4; cases e4
   exact hS.inj n m b c _ _ _ h k e1 e3
 ·rcases Nat.lt_or_ge n N with h | h
  ·rw [g.same n (.inl h)] at hn
   exact Nat.lt_of_lt_of_le (hS.lt n a C hn) g.bel.size
  ·rcases Nat.lt_or_ge n N' with h' | h'
   ·exact (g.new n _ h h' hn).2
   ·rw [g.same n (.inr h')] at hn
    exact Nat.lt_of_lt_of_le (hS.lt n a C hn) g.bel.size
def setE (ρ : Env) (N : Nat) (p : Nat × Nat) : Env := fun n => if n = N then some p else ρ n
theorem setE_self (ρ : Env) (N : Nat) (p : Nat × Nat) : setE ρ N p N = some p := if_pos rfl
theorem setE_other {ρ : Env} {N : Nat} {p : Nat × Nat} {n : Nat} (h : n ≠ N) : setE ρ N p n = ρ n := if_neg h
theorem setE_ext {ρ : Env} {N : Nat} {p : Nat × Nat} (h : ρ N = none) : Ext ρ (setE ρ N p) := fun n q hq => by
 rw [setE_other (fun e => by rw [e, h] at hq; cases hq)]; exact hq
theorem Grew.one {P : Program} {ρ : Env} {N C : Nat} {b : AB} {w w' : World} (hF : Free ρ N (N + 1)) (hb : Below w.heap.size w w') (hs : w.heap.size < w'.heap.size) (ho : OR P (setE ρ N (w.heap.size, C)) C b w'.heap[w.heap.size]?) :
  Grew P ρ (setE ρ N (w.heap.size, C)) N (N + 1) [(N, b)] w w' :=
 ⟨setE_ext (hF N (Nat.le_refl _) (by omega)), fun n h => setE_other (by omega), hb,
  fun n p h1 h2 h3 => by obtain rfl : n = N := by omega
                         rw [setE_self] at h3; cases h3; exact ⟨Nat.le_refl _, hs⟩,
  fun p h => by simp only [List.mem_singleton] at h; subst h; exact ⟨Nat.le_refl _, by simp⟩,
  fun p h => by simp only [List.mem_singleton] at h; subst h; exact ⟨_, _, setE_self _ _ _, ho⟩,
  fun p h q k a C D _ _ => by simp only [List.mem_singleton] at h k; rw [h, k]⟩
theorem below_push (w : World) (o : Obj) : Below w.heap.size w { w with heap := w.heap.push o } := ⟨rfl, rfl, rfl, by simp, fun k hk => by
 show (w.heap.push o)[k]? = _
 rw [Array.getElem?_push, if_neg (by omega)]⟩
theorem push_at (w : World) (o : Obj) : ({ w with heap := w.heap.push o } : World).heap[w.heap.size]? = some o := by simp
theorem OR.new {P : Program} {ρ : Env} {e : TypeId} {l cs : List Value} {o : Option Obj} (ho : o = some (.cells ⟨cs⟩ e (0, 0))) (h : VL ρ l cs) : OR P ρ 0 (.cells false e l) o :=
 ⟨cs, ho, by rw [h.1, List.take_length]; exact h, fun _ => h.1.symm, fun h => by cases h⟩
theorem Sat.write {P : Program} {ρ : Env} {H H' : HP} {w : World} {n a C : Nat} {g : Bool} {e : TypeId} {l l' cs cs' : List Value} (hS : Sat P ρ H w) (hb : H.get n = some (.cells g e l)) (hn : ρ n = some (a, C)) (hcs : w.heap[a]? = some (.cells ⟨cs⟩ e (0, 0)))
  (hH : ∀ m, H'.get m = if m = n then some (.cells g e l') else H.get m) (hlen : cs'.length = cs.length) (hl : l'.length = l.length) (hv : VL ρ l' (cs'.take l'.length)) : Sat P ρ H' (w.setRow a ⟨cs'⟩) := by
 have hself := setRow_heap w a ⟨cs⟩ ⟨cs'⟩ e (0, 0) hcs
 refine ⟨fun m b hm => ?_, fun m k b c x D F hm hk h1 h2 => ?_, fun m x D hm => by rw [setRow_size]; exact hS.lt m x D hm⟩
 ·rw [hH] at hm
  by_cases e' : m = n
  ·subst e'
   rw [if_pos rfl] at hm
   cases hm
   obtain ⟨a', C', h1, cs2, h2, h3, h4, h5⟩ := hS.blk m _ hb
   rw [hn] at h1; cases h1
   rw [hcs] at h2; cases h2
   exact ⟨a, C, hn, cs', hself, hv, fun h => by rw [hlen, hl]; exact h4 h, fun h => by rw [hlen]; exact h5 h⟩
  ·rw [if_neg e'] at hm
   obtain ⟨x, D, h1, h2⟩ := hS.blk m b hm
   have hx : x ≠ a := fun ex => by subst ex; exact e' (hS.inj m n b _ x D C hm hb h1 hn)
   exact ⟨x, D, h1, by rw [setRow_other w a x _ hx]; exact h2⟩
 ·have get : ∀ i c, H'.get i = some c → ∃ c', H.get i = some c' := fun i c hi => by
   rw [hH] at hi
   by_cases e' : i = n
   ·subst e'; exact ⟨_, hb⟩
   ·rw [if_neg e'] at hi; exact ⟨c, hi⟩
  obtain ⟨b', hb'⟩ := get m b hm
  obtain ⟨c', hc'⟩ := get k c hk
  exact hS.inj m k b' c' x D F hb' hc' h1 h2
theorem splice_sound {P : Program} {ρ : Env} {H H' : HP} {w : World} {n a C off : Nat} {g : Bool} {e : TypeId} {l us vs : List Value} {N : Nat} (hS : Sat P ρ H w) (hb : H.get n = some (.cells g e l)) (hn : ρ n = some (a, C)) (hN : ∀ n b, H.get n = some b → n < N) (hle : off + us.length ≤ l.length)
  (hH : ∀ m, H'.get m = if m = n then some (.cells g e (l.take off ++ us ++ l.drop (off + us.length))) else H.get m) (hv : VL ρ us vs) (ho : us.all oneC = true) :
  ∃ w', (storeCells ⟨a, off, none⟩ vs).run P w = .ok () w' ∧ Wrote P ρ ρ N N n H' w w' := by
 obtain ⟨a', C', h1, cs, h2, h3, h4, h5⟩ := hS.blk n _ hb
 rw [hn] at h1; cases h1
 have hlen : l.length ≤ cs.length := by have := h3.1; simp at this; omega
 have hul := hv.1
 have hrun := run_storeCells_at (P := P) a off e vs 0 ⟨cs⟩ w h2 (by simp; omega) (hv.one ho)
 simp only [Nat.add_zero] at hrun
 refine ⟨_, hrun, .refl ρ, fun _ _ => rfl, ?_, rfl, rfl, rfl, by simp, fun x hx h => ?_, fun m p h1 h2 => by omega, fun m b hm => ?_⟩
 ·refine hS.write hb hn h2 hH ?_ ?_ ?_
  ·simp; omega
  ·simp; omega
  ·have e1 : (l.take off ++ us ++ l.drop (off + us.length)).length = l.length := by simp; omega
   rw [e1]
   have h3' : VL ρ (l.take off ++ us ++ l.drop (off + us.length)) ((cs.take l.length).take off ++ vs ++ (cs.take l.length).drop (off + vs.length)) := by
    rw [← hul]
    exact ((h3.take off).append hv).append (h3.drop _)
   have e2 : (cs.take l.length).take off ++ vs ++ (cs.take l.length).drop (off + vs.length) = (cs.take off ++ vs ++ cs.drop (off + vs.length)).take l.length := by
    rw [List.take_append, List.take_append]
    have t1 : (cs.take off).length = off := by simp; omega
    rw [List.take_take, List.take_take, Nat.min_comm]
    congr 1
    ·congr 1
     rw [t1, List.take_of_length_le (by omega)]
    ·simp only [List.length_append, t1, List.drop_take]
   rw [e2] at h3'
   exact h3'
 ·exact setRow_other w a x _ (fun ex => h n (a, C) (Nat.le_refl _) (hN n _ hb) hn ex.symm)
 ·rw [hH] at hm
  by_cases e : m = n
  ·rw [e]; exact hN n _ hb
  ·rw [if_neg e] at hm; exact hN m b hm
end Ev
end
section
namespace Ev
open Go Go.RowKit
section
variable {P : Program} {o : Oper} {a : Act} {w w' : World} {K : Act → World → Prop} {Q : Exit → Act → World → Prop}
theorem wp_value {ro : Option Nat} {m : Nat} {v : Value} (h : (execOp a.eval o).run P w = .ok (.value v) w') (hk : K (a.put o.dst v) w') (hd : ∀ c, o.op ≠ .defer c := by exact fun _ h => (by cases h)) : o.wpIn (fe ro) m P a w K Q :=
 ⟨fun _ _ => trivial, by rw [Oper.semAt_eq _ _ _ hd, h]; exact hk⟩
theorem wp_skipped {ro : Option Nat} {m : Nat} (h : (execOp a.eval o).run P w = .ok .skip w') (hk : K (a.put o.dst undef) w') (hd : ∀ c, o.op ≠ .defer c := by exact fun _ h => (by cases h)) : o.wpIn (fe ro) m P a w K Q :=
 ⟨fun _ _ => trivial, by rw [Oper.semAt_eq _ _ _ hd, h]; exact hk⟩
end
def Glob (G : Nat) (ρ : Env) : Prop := ∀ g, g < G → ∃ C, ρ g = some (g, C)
theorem Glob.mono {G : Nat} {ρ ρ' : Env} (h : Ext ρ ρ') (k : Glob G ρ) : Glob G ρ' := fun g hg => let ⟨C, e⟩ := k g hg; ⟨C, h _ _ e⟩
theorem aeval_sound {G : Nat} {ρ : Env} {T : PT Value} {a : Act} {x : Operand} {u : Value} (hT : TR ρ T a.tmps) (hG : Glob G ρ) (h : aeval G T x = some u) : VR ρ u (a.eval x) := by
 cases x with
 | tmp t =>
  obtain ⟨v, h1, h2⟩ := hT t u h
  have : a.eval (.tmp t) = v := by simp [Act.eval, h1]
  rw [this]; exact h2
 | const v =>
  have h' : cond (flat 5 v) (some v) none = some u := h
  cases hf : flat 5 v with
  | true => rw [hf] at h'; simp only [cond_true, Option.some.injEq] at h'; subst h'; exact flat_le 5 v hf ρ
  | false => rw [hf] at h'; cases h'
 | global g =>
  have h' : cond (Nat.blt g G) (some (.pointer (some ⟨g, 0, none⟩))) none = some u := h
  cases hf : Nat.blt g G with
  | true =>
   rw [hf] at h'; cases h'
   obtain ⟨C, e⟩ := hG g (by simp [Nat.blt, Nat.ble_eq] at hf; omega)
   exact VR.ptr e
  | false => rw [hf] at h'; cases h'
 | func f => cases h; exact .func rfl (fun i u v h => by simp at h) rfl (fun i u v h => by simp at h)
theorem vals_sound {G : Nat} {ρ : Env} {T : PT Value} {a : Act} (hT : TR ρ T a.tmps) (hG : Glob G ρ) : ∀ (l : List Operand) (k : List Value → Rs Out) (r : Out), vals G T l k = .ok r → ∃ us, k us = .ok r ∧ VL ρ us (l.map a.eval) ∧ ∀ (i : Nat) (x : Operand), l[i]? = some x → ∃ u, us[i]? = some u ∧ aeval G T x = some u
 | [], k, r, h => ⟨[], h, .nil ρ, fun i x hx => by simp at hx⟩
 | x :: l, k, r, h => by
  have h' : (match aeval G T x with | some v => vals G T l (fun l => k (v :: l)) | none => .bad 81) = .ok r := h
  cases hx : aeval G T x with
  | none => rw [hx] at h'; cases h'
  | some u =>
   rw [hx] at h'
   obtain ⟨us, h1, h2, h3⟩ := vals_sound hT hG l _ r h'
   refine ⟨u :: us, h1, .cons (aeval_sound hT hG hx) h2, fun i y hy => ?_⟩
   cases i with
   | zero => simp at hy; subst hy; exact ⟨u, rfl, hx⟩
   | succ i => simp at hy; exact h3 i y hy
theorem VL.same {l : List Value} (h : l.all (flat 5) = true) (ρ : Env) : VL ρ l l := ⟨rfl, fun i u v e1 e2 => by
 rw [e1] at e2; cases e2
 exact flat_le 5 u (List.all_eq_true.1 h u (List.mem_of_getElem? e1)) ρ⟩
theorem run_zero {P : Program} {t : TypeId} {l : List Value} (h : zeroO P t = some l) : ∃ z, z.cells.toList = l ∧ (∀ ρ, VL ρ l l) ∧ ∀ w, (zeroValue t).run P w = .ok z w := by
 unfold zeroO at h
 cases hi : P.info? t with
 | none => rw [hi] at h; cases h
 | some i =>
  rw [hi] at h
  cases hz : i.zero with
  | none => simp only [hz] at h; cases h
  | some z =>
   simp only [hz] at h
   cases hf : z.cells.toList.all (flat 5) with
   | false => rw [hf] at h; cases h
   | true =>
    rw [hf] at h
    simp only [cond_true, Option.some.injEq] at h
    subst h
    exact ⟨z, rfl, fun ρ => .same hf ρ, fun w => by simp [zeroValue, typeInfo, hi, hz]⟩
theorem info_size {P : Program} {t : TypeId} {s : Nat} (h : sizeO P t = some s) : (P.info? t).map (·.size) = some s := by
 unfold sizeO at h
 cases hi : P.info? t with
 | none => rw [hi] at h; cases h
 | some i => rw [hi] at h; simp only [Option.some.injEq] at h; subst h; rfl
theorem new_sound {P : Program} {ρ : Env} {N : Nat} {e : TypeId} {us vs : List Value} {w : World} (hF : Free ρ N (N + 1)) (hv : VL ρ us vs) :
  Grew P ρ (setE ρ N (w.heap.size, 0)) N (N + 1) [(N, .cells false e us)] w { w with heap := w.heap.push (.cells ⟨vs⟩ e (0, 0)) } :=
 Grew.one hF (below_push w _) (by simp) (.new (push_at w _) (hv.mono (setE_ext (hF N (Nat.le_refl _) (by omega)))))
section ops
variable {P : Program} {G : Nat} {ρ : Env} {T : PT Value} {H : HP} {N : Nat} {out : Out} {a : Act} {w : World} {dst : Option Tmp} {type : TypeId} {pos : String} {after : Array Edge} {guard : Option (Nat × Bool)}
theorem newC_ok {e : TypeId} {us : List Value} {o : Oper} (hd : ∀ c, o.op ≠ .defer c) (h : newC N e us = .ok out) (vs : List Value) (hv : VL ρ us vs)
  (hr : (execOp a.eval o).run P w = .ok (.value (.pointer (some ⟨w.heap.size, 0, none⟩))) { w with heap := w.heap.push (.cells ⟨vs⟩ e (0, 0)) }) : OpOk P o ρ N out a w := by
 cases h
 exact ⟨Nat.le_succ N, fun hF ro mm K Q hK => wp_value hr (hK _ _ _ (new_sound (hF.free _) hv) (.ptr (setE_self ρ N _))) hd⟩
theorem alloc_ok {e : TypeId} (h : (match zeroO P e with | some l => newC N e l | none => .bad 102) = Rs.ok out) : OpOk P ⟨dst, .alloc e, type, pos, after, guard⟩ ρ N out a w := by
 cases hl : zeroO P e with
 | none => rw [hl] at h; cases h
 | some l =>
  rw [hl] at h
  obtain ⟨z, h1, hfl, h2⟩ := run_zero hl
  refine newC_ok (fun _ h => (by cases h)) h l (hfl ρ) ?_
  ·simp only [execOp, Instr.alloc, Sem.run_bind, h2, Result.andThen_ok]
   simp [newVar, newRow, ← h1]
theorem box_ok {e : TypeId} {x : Operand} (hT : TR ρ T a.tmps) (hG : Glob G ρ) (h : (match aeval G T x with | some v => newC N e v.cells.toList | none => .bad 103) = Rs.ok out) : OpOk P ⟨dst, .box e x, type, pos, after, guard⟩ ρ N out a w := by
 cases hx : aeval G T x with
 | none => rw [hx] at h; cases h
 | some u =>
  rw [hx] at h
  have hr := aeval_sound hT hG hx
  refine newC_ok (fun _ h => (by cases h)) h (a.eval x).cells.toList hr.cells ?_
  simp [execOp, Instr.box, newVar, newRow]
theorem load_ok {t : TypeId} {x : Operand} (hS : Sat P ρ H w) (hT : TR ρ T a.tmps) (hG : Glob G ρ) (h : (match aeval G T x with | some (.pointer (some ⟨n, off, _⟩)) => loadC P H t n off fun v => Rs.ok (.v v [] N) | _ => .bad 104) = Rs.ok out) : OpOk P ⟨dst, .load t x, type, pos, after, guard⟩ ρ N out a w := by
 split at h
 ·rename_i n off s hx
  have hr := aeval_sound hT hG hx
  generalize hv : a.eval x = v at hr
  cases hr with
  | @ptr _ _ _ b C hn =>
   obtain ⟨u, v, hk, hrun, hvr⟩ := load_sound hS hn h
   cases hk
   exact ⟨Nat.le_refl _, fun hF ro mm K Q hK => wp_value (v := v) (w' := w) (by simp [execOp, Instr.loadAt, Instr.sureAddr, hv, hrun]) (hK _ _ _ (.refl P ρ N w) hvr)⟩
 ·cases h
theorem lt_of_name (hF : ∀ n p, ρ n = some p → n < N) {n : Nat} {p : Nat × Nat} (h : ρ n = some p) : n < N := hF n p h
theorem store_ok {t : TypeId} {x y : Operand} (hS : Sat P ρ H w) (hT : TR ρ T a.tmps) (hG : Glob G ρ) (hN : ∀ n b, H.get n = some b → n < N) (h : (match aeval G T x, aeval G T y with | some (.pointer (some ⟨n, off, _⟩)), some v => storeC P H t n off v fun H' => Rs.ok (.w undef H' N n) | _, _ => .bad 105) = Rs.ok out) : OpOk P ⟨dst, .store t x y, type, pos, after, guard⟩ ρ N out a w := by
 split at h
 ·rename_i n off s u hx hy
  have hr := aeval_sound hT hG hx
  have hry := aeval_sound hT hG hy
  generalize hv : a.eval x = v at hr
  cases hr with
  | @ptr _ _ _ b C hn =>
   unfold storeC at h
   split at h
   ·rename_i g e l hb
    split at h
    ·rename_i sz hs
     cases hc : (Nat.beq u.cells.toList.length sz && u.cells.toList.all oneC) with
     | false => rw [hc] at h; cases h
     | true =>
      rw [hc] at h
      simp only [cond_true, spliceK_eq] at h
      rw [Bool.and_eq_true] at hc
      obtain ⟨hc1, hc2⟩ := hc
      have hc1 : u.cells.toList.length = sz := by simpa using hc1
      split at h
      ·rename_i hle
       rcases PT.insK_spec 60 H n (some (AB.cells g e (l.take off ++ u.cells.toList ++ l.drop (off + u.cells.toList.length)))) with hbad | ⟨H', hok, hget⟩
       ·rw [hbad] at h; cases h
       ·rw [hok] at h
        cases h
        obtain ⟨w', hrun, hW⟩ := splice_sound (N := N) hS hb hn hN hle hget hry.cells hc2
        refine ⟨Nat.le_refl _, fun hF ro mm K Q hK => wp_skipped (w' := w') ?_ (hK _ _ _ hW (by exact .tuple rfl (fun i u v h => by simp at h)))⟩
        have hsz : (a.eval y).cells.size = sz := by have := hry.cells.1; simp at this hc1; omega
        simp [execOp, Instr.storeAt, Instr.sureAddr, hv, storeVar, run_sizeOf hs, hsz, hrun]
      ·cases h
    ·cases h
   ·cases h
 ·cases h
end ops
end Ev
end
end Go.Proofs.YtcjgilagldbjnaaGreatDoor
