/- The reckoner: a region that draws its order. No conditions. -/
import Derived.Test.YtadpelhmjmamnaaGreatDoorEvP23
import Derived.StillTail
namespace Go.Proofs.YtadpelhmjmamnaaGreatDoor.Ev
open Go Go.RowKit

/-- The tail from n on: each of it waits for the whole head, and they come in one order. -/
def okT (ops : Array Oper) (n : Nat) : Bool :=
  ((List.range' n (ops.toList.length - n)).all fun k => (List.range n).all fun j => ((ancs ops.toList).getD k []).getD j false) && seq1B ops (ops.size - n) n (endA ops.size n)

section
variable {l : List Oper}
def ancRow (acc : List (List Bool)) (o : Oper) : List Bool := (List.range acc.length).map fun j => waits1B o j || (List.range acc.length).any fun i => waits1B o i && ((acc.getD i []).getD j false)
theorem ancs_snoc (l : List Oper) (o : Oper) : ancs (l ++ [o]) = ancs l ++ [ancRow (ancs l) o] := by
  unfold ancs
  rw [List.foldl_append]
  rfl
theorem ancs_take (l : List Oper) : ∀ k, k ≤ l.length → (ancs (l.take k)).length = k ∧ ∀ i (h : i < l.length), i < k → (ancs (l.take k)).getD i [] = ancRow (ancs (l.take i)) l[i]
  | 0, _ => ⟨by simp [ancs], fun i _ h => by omega⟩
  | k + 1, h => by
    obtain ⟨h1, h2⟩ := ancs_take l k (by omega)
    have hk : k < l.length := by omega
    rw [List.take_succ_eq_append_getElem hk, ancs_snoc]
    refine ⟨by simp [h1], fun i hi hik => ?_⟩
    by_cases e : i = k
    · subst e
      simp only [List.getD_eq_getElem?_getD]
      rw [List.getElem?_append_right (by omega), h1]
      simp
    · have := h2 i hi (by omega)
      simp only [List.getD_eq_getElem?_getD] at this ⊢
      rw [List.getElem?_append_left (by omega)]
      exact this
theorem ancs_length (l : List Oper) : (ancs l).length = l.length := by
  have := (ancs_take l l.length (Nat.le_refl _)).1
  rwa [List.take_length] at this
theorem anc_spec {i j : Nat} {o : Oper} (ho : l[i]? = some o) (h : ((ancs l).getD i []).getD j false = true) : j < i ∧ (waits1B o j = true ∨ ∃ k, waits1B o k = true ∧ k < i ∧ ((ancs l).getD k []).getD j false = true) := by
  have hi : i < l.length := (List.getElem?_eq_some_iff.1 ho).1
  have hio : l[i] = o := (List.getElem?_eq_some_iff.1 ho).2
  have hall := (ancs_take l l.length (Nat.le_refl _)).2
  rw [List.take_length] at hall
  rw [hall i hi hi, hio] at h
  have hli := (ancs_take l i (by omega)).1
  unfold ancRow at h
  rw [hli] at h
  simp only [List.getD_eq_getElem?_getD, List.getElem?_map] at h
  rcases Nat.lt_or_ge j i with hj | hj
  · rw [List.getElem?_range hj] at h
    simp only [Option.map_some, Option.getD_some, Bool.or_eq_true, List.any_eq_true, List.mem_range, Bool.and_eq_true] at h
    refine ⟨hj, h.imp id ?_⟩
    rintro ⟨k, hk, h1, h2⟩
    refine ⟨k, h1, hk, ?_⟩
    rw [hall k (by omega) (by omega)]
    have h3 := (ancs_take l i (by omega)).2 k (by omega) hk
    simp only [List.getD_eq_getElem?_getD] at h3 ⊢
    rw [← h3]
    exact h2
  · rw [List.getElem?_eq_none (by simp; omega)] at h
    simp at h
end
theorem waits_ready {ops : Array Oper} {ls : Array Bool} {i j : Nat} {o : Oper} (hr : i ∈ Region.ready .any ops ls) (ho : ops[i]? = some o) (h : waits1B o j = true) : ls.getD j false = true := by
  obtain ⟨_, o', ho', hall⟩ := mem_ready.1 hr
  rw [ho] at ho'
  cases ho'
  unfold waits1B at h
  rw [List.any_eq_true] at h
  obtain ⟨e, he, h2⟩ := h
  rw [Bool.and_eq_true, beq_iff_eq] at h2
  rw [← h2.2]
  exact hall e (by simpa using he) h2.1
def Closed (ops : Array Oper) (ls : Array Bool) : Prop := ∀ i j, ls.getD i false = true → ((ancs ops.toList).getD i []).getD j false = true → ls.getD j false = true
theorem ready_anc {ops : Array Oper} {ls : Array Bool} {i j : Nat} (hc : Closed ops ls) (hr : i ∈ Region.ready .any ops ls) (h : ((ancs ops.toList).getD i []).getD j false = true) : ls.getD j false = true := by
  obtain ⟨_, o, ho, _⟩ := mem_ready.1 hr
  rcases (anc_spec (by rw [Array.getElem?_toList]; exact ho) h).2 with h1 | ⟨k, h1, _, h2⟩
  · exact waits_ready hr ho h1
  · exact hc k j (waits_ready hr ho h1) h2
theorem Closed.set {ops : Array Oper} {ls : Array Bool} {i : Nat} (hc : Closed ops ls) (hr : i ∈ Region.ready .any ops ls) : Closed ops (ls.setIfInBounds i true) := fun k j hk hm => by
  have key : ls.getD j false = true → (ls.setIfInBounds i true).getD j false = true := fun h => by
    by_cases e : i = j
    · subst e
      have hlt : i < ls.size := by
        rcases Nat.lt_or_ge i ls.size with h2 | h2
        · exact h2
        · simp [Array.getD_eq_getD_getElem?, Array.getElem?_eq_none h2] at h
      simp [Array.getD_eq_getD_getElem?, hlt]
    · rw [getD_set_ne false e]; exact h
  by_cases e : i = k
  · subst e; exact key (ready_anc hc hr hm)
  · rw [getD_set_ne false e] at hk; exact key (hc k j hk hm)

theorem addD_spec : ∀ (d : List (Nat × AB)) (H : HP) (n : Nat) (b : AB), (List.rec (motive := fun _ => HP → HP) (fun H => H) (fun (p : Nat × AB) _ ih H => ih (PT.insK 60 H p.1 (some p.2) (fun H' => H') .nil)) d H).get n = some b → (n, b) ∈ d ∨ H.get n = some b
  | [], H, n, b, h => .inr h
  | p :: d, H, n, b, h => by
    rcases addD_spec d _ n b h with g | g
    · exact .inl (List.mem_cons_of_mem _ g)
    · rcases PT.insK_spec 60 H p.1 (some p.2) with hb | ⟨H', h1, h2⟩
      · rw [hb] at g; cases g
      · rw [h1, h2] at g
        by_cases e : n = p.1
        · rw [if_pos e] at g; cases g; subst e; exact .inl List.mem_cons_self
        · rw [if_neg e] at g; exact .inr g
theorem heapFor_spec : ∀ (mask : List Bool) (ds : List (List (Nat × AB))) (H : HP) (n : Nat) (b : AB), (heapFor H mask ds).get n = some b → H.get n = some b ∨ ∃ j d, mask.getD j false = true ∧ ds[j]? = some d ∧ (n, b) ∈ d
  | [], ds, H, n, b, h => .inl h
  | q :: mask, [], H, n, b, h => .inl h
  | q :: mask, d :: ds, H, n, b, h => by
    have h' : (heapFor (cond q (List.rec (motive := fun _ => HP → HP) (fun H => H) (fun (p : Nat × AB) _ ih H => ih (PT.insK 60 H p.1 (some p.2) (fun H' => H') .nil)) d H) H) mask ds).get n = some b := h
    rcases heapFor_spec mask ds _ n b h' with g | ⟨j, d', g1, g2, g3⟩
    · cases q with
      | false => exact .inl g
      | true =>
        rcases addD_spec d H n b g with k | k
        · exact .inr ⟨0, d, rfl, rfl, k⟩
        · exact .inl k
    · exact .inr ⟨j + 1, d', by simpa using g1, by simpa using g2, g3⟩

/-- How many of the first n have not come up. -/
def openC (ls : Array Bool) : Nat → Nat
  | 0 => 0
  | n + 1 => openC ls n + (if ls.getD n true then 0 else 1)
theorem openC_same {ls : Array Bool} {i : Nat} : ∀ m, m ≤ i → openC (ls.setIfInBounds i true) m = openC ls m
  | 0, _ => rfl
  | m + 1, h => by
    simp only [openC]
    rw [openC_same m (by omega), getD_set_ne true (by omega)]
theorem openC_set {ls : Array Bool} {i : Nat} (hi : ls.getD i true = false) (hl : i < ls.size) : ∀ n, i < n → openC (ls.setIfInBounds i true) n + 1 = openC ls n
  | 0, h => by omega
  | n + 1, h => by
    simp only [openC]
    by_cases hn : n = i
    · subst hn
      have e1 : (ls.setIfInBounds n true).getD n true = true := by simp [Array.getD_eq_getD_getElem?]
      rw [openC_same n (Nat.le_refl _), e1, hi]
      simp
    · rw [getD_set_ne true (Ne.symm hn)]
      have := openC_set hi hl n (by omega)
      omega
theorem openC_zero {ls : Array Bool} : ∀ n, openC ls n = 0 → ∀ j, j < n → ls.getD j true = true
  | 0, _, j, h => by omega
  | n + 1, h, j, hj => by
    simp only [openC] at h
    by_cases e : j = n
    · subst e
      cases hv : ls.getD j true with
      | true => rfl
      | false => rw [hv] at h; simp at h
    · exact openC_zero n (by omega) j (by omega)
theorem openC_first {ls : Array Bool} : ∀ n, openC ls n ≠ 0 → ∃ j, j < n ∧ ls.getD j true = false ∧ ∀ k, k < j → ls.getD k true = true
  | 0, h => absurd rfl h
  | n + 1, h => by
    by_cases h0 : openC ls n = 0
    · refine ⟨n, by omega, ?_, openC_zero n h0⟩
      cases hv : ls.getD n true with
      | false => rfl
      | true => simp only [openC, h0, hv] at h; exact absurd rfl h
    · obtain ⟨j, hj, h1, h2⟩ := openC_first n h0
      exact ⟨j, by omega, h1, h2⟩
theorem openC_new (m : Nat) : ∀ k, k ≤ m → openC (Array.replicate m false) k = k
  | 0, _ => rfl
  | k + 1, h => by
    simp only [openC]
    rw [openC_new m k (by omega)]
    have : (Array.replicate m false).getD k true = false := by simp [Array.getD_eq_getD_getElem?, show k < m from h]
    rw [this]
    rfl
theorem edges1_spec : ∀ (l : List Oper) (i k : Nat) (o : Oper) (e : Edge), edges1B l i = true → l[k]? = some o → e ∈ o.after → Region.binds .any e = true → e.on < i + k
  | [], _, _, _, _, _, h, _, _ => by simp at h
  | o :: l, i, k, o2, e, hE, h, he, hb => by
    simp only [edges1B, Bool.and_eq_true] at hE
    cases k with
    | zero =>
      simp only [List.getElem?_cons_zero, Option.some.injEq] at h
      subst h
      have := (Array.all_eq_true'.1 hE.1) e he
      rw [hb] at this
      simpa using this
    | succ k =>
      simp only [List.getElem?_cons_succ] at h
      have := edges1_spec l (i + 1) k o2 e hE.2 h he hb
      omega
theorem getD_size' {ls : Array Bool} {i : Nat} (h : ls.getD i true = false) : i < ls.size := by
  rcases Nat.lt_or_ge i ls.size with h2 | h2
  · exact h2
  · simp [Array.getD_eq_getD_getElem?, Array.getElem?_eq_none h2] at h
theorem getD_true {ls : Array Bool} {i : Nat} (hi : i < ls.size) (h : ls.getD i true = true) : ls.getD i false = true := by
  simpa [Array.getD_eq_getD_getElem?, hi] using h
theorem endA_eq {m n : Nat} {ls : Array Bool} (hls : ls.size = m) (h1 : ∀ j, j < n → ls.getD j true = true) (h2 : ∀ t, n ≤ t → t < m → ls.getD t true = false) : ls = endA m n := by
  unfold endA
  apply Array.ext
  · simp [hls]
  · intro i hi hi2
    have e : ls.getD i true = ls[i] := by simp [Array.getD_eq_getD_getElem?, hi]
    rw [← e]
    simp only [List.getElem_toArray, List.getElem_map, List.getElem_range]
    by_cases h : i < n
    · rw [h1 i h, decide_eq_true h]
    · rw [h2 i (by omega) (by omega), decide_eq_false h]
/-- A tail in one order. -/
theorem tail_any {F : Fence} {m : Nat} {P : Program} {ops : Array Oper} {Q : Exit → Act → World → Prop} : ∀ (k i : Nat) (ls : Array Bool) (a : Act) (w : World), seq1B ops k i ls = true → wpOpsIn F m P ops Q (List.range' i k) a w → wpAnyIn F m P .any ops Q k ls a w
  | 0, i, ls, a, w, h, hw => ⟨by simpa [seq1B] using h, hw⟩
  | k + 1, i, ls, a, w, h, hw => by
    simp only [seq1B, Bool.and_eq_true, beq_iff_eq] at h
    rw [List.range'_succ, wpOpsIn_cons] at hw
    refine ⟨fun h0 => (by rw [h.1] at h0; cases h0), fun j hj => ?_⟩
    rw [h.1] at hj
    obtain rfl : j = i := by simpa using hj
    exact wpOpIn_mono (fun a' w' hk => tail_any k (j + 1) _ a' w' h.2 hk) hw
end Go.Proofs.YtadpelhmjmamnaaGreatDoor.Ev
