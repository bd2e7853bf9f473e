/- The reckoner's values and memory, and the program's: one by names, one by blocks. No conditions. -/
import Derived.Test.YtadpelhmjmamnaaGreatDoorEvP1
import Derived.Below
namespace Go.Proofs.YtadpelhmjmamnaaGreatDoor.Ev
open Go Go.RowKit

/-- For each name: its block, and how many elements the slice bears that append made. -/
abbrev Env := Nat → Option (Nat × Nat)

inductive VR (ρ : Env) : Value → Value → Prop where
  | bool (b) : VR ρ (.bool b) (.bool b)
  | int (k n) : VR ρ (.int k n) (.int k n)
  | float (k n) : VR ρ (.float k n) (.float k n)
  | complex (k a b) : VR ρ (.complex k a b) (.complex k a b)
  | string (s) : VR ρ (.string s) (.string s)
  | nilp : VR ρ (.pointer none) (.pointer none)
  | ptr {n o s a C} : ρ n = some (a, C) → VR ρ (.pointer (some ⟨n, o, s⟩)) (.pointer (some ⟨a, o, none⟩))
  | nils (l c) : VR ρ (.slice none l c) (.slice none l c)
  | sl {n o l c a C} : ρ n = some (a, C) → VR ρ (.slice (some ⟨n, o, none⟩) l c) (.slice (some ⟨a, o, none⟩) l c)
  | soft {n o q l l' c a C} : ρ n = some (a, C) → l' = l → l ≤ c → (o = 0 → c = C) → VR ρ (.slice (some ⟨n, o, some q⟩) l l') (.slice (some ⟨a, o, none⟩) l c)
  | nilm : VR ρ (.map none) (.map none)
  | map {n a C} : ρ n = some (a, C) → VR ρ (.map (some n)) (.map (some a))
  | nilc : VR ρ (.chan none) (.chan none)
  | nilf : VR ρ .nilFunc .nilFunc
  | nili : VR ρ .nilIface .nilIface
  | iface {t u v} : VR ρ u v → VR ρ (.iface t u) (.iface t v)
  | agg {us vs : List Value} : us.length = vs.length → (∀ (i : Nat) (u v : Value), us[i]? = some u → vs[i]? = some v → VR ρ u v) → VR ρ (.agg ⟨us⟩) (.agg ⟨vs⟩)
  | tuple {us vs : List Value} : us.length = vs.length → (∀ (i : Nat) (u v : Value), us[i]? = some u → vs[i]? = some v → VR ρ u v) → VR ρ (.tuple ⟨us⟩) (.tuple ⟨vs⟩)
  | yld {n a C} : ρ n = some (a, C) → VR ρ (.func (.yield n) ⟨[]⟩ ⟨[]⟩) (.func (.yield a) ⟨[]⟩ ⟨[]⟩)
  | func {f} {us vs xs ys : List Value} : us.length = vs.length → (∀ (i : Nat) (u v : Value), us[i]? = some u → vs[i]? = some v → VR ρ u v) → xs.length = ys.length → (∀ (i : Nat) (u v : Value), xs[i]? = some u → ys[i]? = some v → VR ρ u v) →
      VR ρ (.func (.func f) ⟨us⟩ ⟨xs⟩) (.func (.func f) ⟨vs⟩ ⟨ys⟩)
  | meth {name : String} {us vs xs ys : List Value} : us.length = vs.length → (∀ (i : Nat) (u v : Value), us[i]? = some u → vs[i]? = some v → VR ρ u v) → xs.length = ys.length → (∀ (i : Nat) (u v : Value), xs[i]? = some u → ys[i]? = some v → VR ρ u v) →
      VR ρ (.func (.method name) ⟨us⟩ ⟨xs⟩) (.func (.method name) ⟨vs⟩ ⟨ys⟩)

def VL (ρ : Env) (us vs : List Value) : Prop := us.length = vs.length ∧ ∀ (i : Nat) (u v : Value), us[i]? = some u → vs[i]? = some v → VR ρ u v

def Ext (ρ ρ' : Env) : Prop := ∀ n p, ρ n = some p → ρ' n = some p
theorem Ext.refl (ρ : Env) : Ext ρ ρ := fun _ _ h => h
theorem Ext.trans {a b c : Env} (h : Ext a b) (k : Ext b c) : Ext a c := fun n p e => k n p (h n p e)

theorem VR.mono {ρ ρ' : Env} (h : Ext ρ ρ') {u v : Value} (r : VR ρ u v) : VR ρ' u v := by
  induction r with
  | ptr e => exact .ptr (h _ _ e)
  | sl e => exact .sl (h _ _ e)
  | soft e h1 h2 h3 => exact .soft (h _ _ e) h1 h2 h3
  | map e => exact .map (h _ _ e)
  | yld e => exact .yld (h _ _ e)
  | iface _ ih => exact .iface ih
  | agg hl _ ih => exact .agg hl ih
  | tuple hl _ ih => exact .tuple hl ih
  | func h1 _ h2 _ ih1 ih2 => exact .func h1 ih1 h2 ih2
  | meth h1 _ h2 _ ih1 ih2 => exact .meth h1 ih1 h2 ih2
  | _ => constructor
theorem VL.mono {ρ ρ' : Env} (h : Ext ρ ρ') {us vs : List Value} (r : VL ρ us vs) : VL ρ' us vs := ⟨r.1, fun i u v h1 h2 => (r.2 i u v h1 h2).mono h⟩
theorem VL.nil (ρ : Env) : VL ρ [] [] := ⟨rfl, fun i u v h => by simp at h⟩
theorem VL.cons {ρ : Env} {u v : Value} {us vs : List Value} (h : VR ρ u v) (r : VL ρ us vs) : VL ρ (u :: us) (v :: vs) :=
  ⟨by simp [r.1], fun i a b h1 h2 => by
    cases i with
    | zero => simp at h1 h2; subst h1; subst h2; exact h
    | succ i => simp at h1 h2; exact r.2 i a b h1 h2⟩
theorem VL.head {ρ : Env} {u v : Value} {us vs : List Value} (r : VL ρ (u :: us) (v :: vs)) : VR ρ u v ∧ VL ρ us vs :=
  ⟨r.2 0 u v rfl rfl, by have := r.1; simpa using this, fun i a b h1 h2 => r.2 (i + 1) a b (by simpa using h1) (by simpa using h2)⟩
theorem VL.nil_inv {ρ : Env} {vs : List Value} (r : VL ρ [] vs) : vs = [] := List.length_eq_zero_iff.1 r.1.symm
theorem VL.cons_inv {ρ : Env} {u : Value} {us vs : List Value} (r : VL ρ (u :: us) vs) : ∃ v vs', vs = v :: vs' ∧ VR ρ u v ∧ VL ρ us vs' := by
  cases vs with
  | nil => have := r.1; simp at this
  | cons v vs => exact ⟨v, vs, rfl, r.head.1, r.head.2⟩
theorem VL.append {ρ : Env} {a b c d : List Value} (h : VL ρ a b) (k : VL ρ c d) : VL ρ (a ++ c) (b ++ d) := by
  induction a generalizing b with
  | nil => obtain rfl := h.nil_inv; exact k
  | cons u us ih => obtain ⟨v, vs, rfl, h1, h2⟩ := h.cons_inv; exact .cons h1 (ih h2)
theorem VL.drop {ρ : Env} {a b : List Value} (h : VL ρ a b) (n : Nat) : VL ρ (a.drop n) (b.drop n) :=
  ⟨by simp [h.1], fun i u v h1 h2 => h.2 (n + i) u v (by simpa using h1) (by simpa using h2)⟩
theorem VL.take {ρ : Env} {a b : List Value} (h : VL ρ a b) (n : Nat) : VL ρ (a.take n) (b.take n) :=
  ⟨by simp [h.1], fun i u v h1 h2 => by
    simp only [List.getElem?_take] at h1 h2
    split at h1
    · rename_i hi; rw [if_pos hi] at h2; exact h.2 i u v h1 h2
    · cases h1⟩
theorem VL.at {ρ : Env} {a b : List Value} (h : VL ρ a b) {i : Nat} {u : Value} (hu : a[i]? = some u) : ∃ v, b[i]? = some v ∧ VR ρ u v := by
  have hi : i < a.length := (List.getElem?_eq_some_iff.1 hu).1
  have hb : i < b.length := by rw [← h.1]; exact hi
  exact ⟨b[i], List.getElem?_eq_getElem hb, h.2 i u _ hu (List.getElem?_eq_getElem hb)⟩

theorem flat_le : ∀ (n : Nat) (v : Value), flat n v = true → ∀ ρ, VR ρ v v := by
  intro n
  induction n with
  | zero => intro v h; cases h
  | succ n ih =>
    intro v h ρ
    have hl : ∀ (cs : List Value), cs.all (flat n) = true → ∀ (i : Nat) (u v : Value), cs[i]? = some u → cs[i]? = some v → VR ρ u v := fun cs hc i u v h1 h2 => by
      rw [h1] at h2; cases h2
      exact ih u (List.all_eq_true.1 hc u (List.mem_of_getElem? h1)) ρ
    cases v with
    | bool b => constructor
    | int k n => constructor
    | float k n => constructor
    | complex k a b => constructor
    | string s => constructor
    | pointer a => cases a with | none => constructor | some a => cases h
    | slice a l c => cases a with | none => constructor | some a => cases h
    | map r => cases r with | none => constructor | some a => cases h
    | chan r => cases r with | none => constructor | some a => cases h
    | nilFunc => constructor
    | nilIface => constructor
    | iface t v => exact .iface (ih v h ρ)
    | agg cs => obtain ⟨cs⟩ := cs; exact .agg rfl (hl cs h)
    | tuple cs => obtain ⟨cs⟩ := cs; exact .tuple rfl (hl cs h)
    | func f a b =>
      obtain ⟨a⟩ := a
      obtain ⟨b⟩ := b
      cases f with
      | func f =>
        have h' : (a.all (flat n) && b.all (flat n)) = true := h
        rw [Bool.and_eq_true] at h'
        exact .func rfl (hl a h'.1) rfl (hl b h'.2)
      | _ => cases h

/-- The frame's slots read as the table. -/
def TR (ρ : Env) (T : PT Value) (tmps : Array Value) : Prop := ∀ i u, T.get i = some u → ∃ v, tmps[i]? = some v ∧ VR ρ u v
theorem TR.mono {ρ ρ' : Env} (h : Ext ρ ρ') {T : PT Value} {tmps : Array Value} (r : TR ρ T tmps) : TR ρ' T tmps := fun i u hu => let ⟨v, h1, h2⟩ := r i u hu; ⟨v, h1, h2.mono h⟩
/-- The block o reads as b. -/
def OR (P : Program) (ρ : Env) (C : Nat) (b : AB) (o : Option Obj) : Prop :=
  match b with
  | .cells g e l => ∃ cs : List Value, o = some (.cells ⟨cs⟩ e (0, 0)) ∧ VL ρ l (cs.take l.length) ∧ (g = false → cs.length = l.length) ∧ (g = true → ∃ sz, sizeO P e = some sz ∧ cs.length = C * sz)
  | .map l => ∃ es clock, o = some (.map es clock) ∧ VL ρ (l.map (·.1)) (es.toList.map (·.key)) ∧ VL ρ (l.map (·.2)) (es.toList.map (·.val))
  | .dfr => o = some (.deferred (some []))
  | .loop st pend T ps assign body d => ∃ fn tmps da D, o = some (.loop { state := st, pending := pend, fn, tmps, params := ps, assign, body, defers := da }) ∧ TR ρ T tmps ∧ ρ d = some (da, D)
theorem OR.mono {P : Program} {ρ ρ' : Env} (h : Ext ρ ρ') {C : Nat} {b : AB} {o : Option Obj} (r : OR P ρ C b o) : OR P ρ' C b o := by
  cases b with
  | cells g e l => obtain ⟨cs, h1, h2, h3⟩ := r; exact ⟨cs, h1, h2.mono h, h3⟩
  | map l => obtain ⟨es, c, h1, h2, h3⟩ := r; exact ⟨es, c, h1, h2.mono h, h3.mono h⟩
  | dfr => exact r
  | loop st pend T ps assign body d => obtain ⟨fn, tmps, da, D, h1, h2, h3⟩ := r; exact ⟨fn, tmps, da, D, h1, h2.mono h, h _ _ h3⟩

structure Sat (P : Program) (ρ : Env) (H : HP) (w : World) : Prop where
  blk : ∀ n b, H.get n = some b → ∃ a C, ρ n = some (a, C) ∧ OR P ρ C b w.heap[a]?
  inj : ∀ n m b c a C D, H.get n = some b → H.get m = some c → ρ n = some (a, C) → ρ m = some (a, D) → n = m
  lt : ∀ n a C, ρ n = some (a, C) → a < w.heap.size

theorem TR.set {ρ : Env} {T T' : PT Value} {tmps : Array Value} {d : Nat} {u v y : Value} (r : TR ρ T tmps) (hy : T.get d = some y) (hT : ∀ j, T'.get j = if j = d then some u else T.get j) (hv : VR ρ u v) : TR ρ T' (tmps.setIfInBounds d v) := fun i x hx => by
  rw [hT] at hx
  by_cases hi : i = d
  · subst hi
    rw [if_pos rfl] at hx
    cases hx
    obtain ⟨z, hz, _⟩ := r i y hy
    have : i < tmps.size := by
      rcases Nat.lt_or_ge i tmps.size with h | h
      · exact h
      · simp [Array.getElem?_eq_none h] at hz
    exact ⟨v, by simp [this], hv⟩
  · rw [if_neg hi] at hx
    obtain ⟨z, hz, hr⟩ := r i x hx
    exact ⟨z, by rw [Array.getElem?_setIfInBounds_ne (Ne.symm hi)]; exact hz, hr⟩
end Go.Proofs.YtadpelhmjmamnaaGreatDoor.Ev
