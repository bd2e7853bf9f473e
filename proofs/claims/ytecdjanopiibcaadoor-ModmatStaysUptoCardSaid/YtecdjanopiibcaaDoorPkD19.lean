/- The reduced form modulo a prime: its rows are combinations of the matrix' rows, and the other way round; how many pivots there are. Conditions: p a prime. A matrix beside the identity: it has as many pivots as rows; when its reduced form holds the identity first. Conditions: p a prime. ModmatNames, ModmatPowers, ModmatReduces, ModmatInverts answer true. Conditions: bases reads 2, 7, 61; the sizes. ModmatReduces answers true. Conditions: bases reads 2, 7, 61; the sizes. -/
import Derived.Test.YtecdjanopiibcaaDoorPkD18
import Derived.Test.YtecdjanopiibcaaDoorPkD15
import Derived.Test.YtecdjanopiibcaaDoorPkD17
namespace Go.Proofs.YtecdjanopiibcaaDoor
section
theorem ent_modN {p : Nat} {M : List (List Nat)} (h : Rect M) (i k : Nat) : ent (modN p M) i k = ent M i k % p := by
  by_cases hi : i < M.length
  · by_cases hk : k < cols M
    · simp [ent, modN, mtab, List.getD_eq_getElem?_getD, hi, hk]
    · have hk2 : ¬ k < M[i].length := by rw [h.at_ i hi]; exact hk
      simp [ent, modN, mtab, List.getD_eq_getElem?_getD, hi, hk, List.getElem?_eq_none (Nat.le_of_not_lt hk2)]
  · simp [ent, modN, mtab, List.getD_eq_getElem?_getD, hi]

section Cast
variable {p : Nat} [NeZero p]
def fz (p : Nat) [NeZero p] (x : Nat) : Fin p := Fin.ofNat p x
theorem fz_eq {x y : Nat} : fz p x = fz p y ↔ x % p = y % p := by
  unfold fz
  constructor
  · intro h; exact congrArg Fin.val h
  · intro h; exact Fin.ext h
theorem fz_val (a : Fin p) : fz p a.val = a := Fin.ext (Nat.mod_eq_of_lt a.isLt)
theorem fz_mod (x : Nat) : fz p (x % p) = fz p x := fz_eq.2 (Nat.mod_mod _ _)
theorem fz_add (x y : Nat) : fz p (x + y) = fz p x + fz p y := Fin.ext (by simp [fz, Fin.val_add])
theorem fz_mul (x y : Nat) : fz p (x * y) = fz p x * fz p y := Fin.ext (by simp [fz, Fin.val_mul])
theorem fz_zero : fz p 0 = 0 := rfl
theorem fz_one : fz p 1 = 1 := rfl
theorem fz_inj {x y : Nat} (hx : x < p) (hy : y < p) (h : fz p x = fz p y) : x = y := by
  have := fz_eq.1 h
  rwa [Nat.mod_eq_of_lt hx, Nat.mod_eq_of_lt hy] at this
theorem fz_self : fz p p = 0 := fz_eq.2 (by simp)
theorem fz_neg {c : Nat} (hc : c ≤ p) : fz p (p - c) = - fz p c := by
  have h : fz p (p - c) + fz p c = 0 := by rw [← fz_add, Nat.sub_add_cancel hc, fz_self]
  grind
theorem fz_plus (x y c : Nat) : fz p (plusN p x y c) = fz p x + fz p y * fz p c := by
  unfold plusN; rw [fz_mod, fz_add, fz_mul]
theorem fz_one_ne (hp : 1 < p) : (1 : Fin p) ≠ 0 := fun e => by
  have : fz p 1 = fz p 0 := e
  have := fz_inj hp (by omega) this
  omega
theorem fz_inv (hp : Pr p) {x : Nat} (hx : x % p ≠ 0) : fz p x * fz p (invN p x) = 1 := by
  have h := congrArg (fz p) (inv_mul hp hx)
  rw [fz_plus, fz_zero, fz_one] at h
  rw [← h]; grind
theorem fz_field (hp : Pr p) : ∀ a : Fin p, a ≠ 0 → ∃ b, a * b = 1 := fun a ha => by
  refine ⟨fz p (invN p a.val), ?_⟩
  have h := fz_inv hp (x := a.val) (fun e => ha (by rw [← fz_val a]; exact fz_eq.2 (by rw [e]; simp)))
  rwa [fz_val] at h

/-- A matrix of numbers, its entries modulo p. -/
def fm (p : Nat) [NeZero p] (M : List (List Nat)) : Nat → Nat → Fin p := fun i j => fz p (ent M i j)
theorem ent_wide {M : List (List Nat)} {n : Nat} (hw : ∀ r ∈ M, r.length = n) (i : Nat) {j : Nat} (h : n ≤ j) : ent M i j = 0 := by
  by_cases hi : i < M.length
  · have := hw _ (List.getElem_mem hi)
    simp [ent, List.getD_eq_getElem?_getD, List.getElem?_eq_getElem hi, List.getElem?_eq_none (show M[i].length ≤ j by omega)]
  · exact ent_out (by omega) j

/-- The rows of each are combinations of the other's. -/
def RowEq (n : Nat) (A B : Nat → Nat → Fin p) : Prop := (∀ k, k < n → LC n A (B k)) ∧ (∀ k, k < n → LC n B (A k))
theorem RowEq.refl (n : Nat) (A : Nat → Nat → Fin p) : RowEq n A A := ⟨fun _ hk => LC.row A hk, fun _ hk => LC.row A hk⟩
theorem RowEq.trans {n : Nat} {A B C : Nat → Nat → Fin p} (h : RowEq n A B) (k : RowEq n B C) : RowEq n A C :=
  ⟨fun i hi => (k.1 i hi).trans h.1, fun i hi => (h.2 i hi).trans k.2⟩
end Cast

section Steps
variable {p : Nat} [NeZero p] {n : Nat} {N : List (List Nat)}
theorem ent_sw3 {i k : Nat} (hi : i < N.length) (hk : k < N.length) (a j : Nat) (ha : a < N.length) : ent (sw [] N i k) a j = if a = k then ent N i j else if a = i then ent N k j else ent N a j := by
  rw [ent_sw hi hk a j ha]
  split
  · rfl
  · split <;> rfl
theorem rowEq_sw {i k : Nat} (hi : i < N.length) (hk : k < N.length) : RowEq N.length (fm p N) (fm p (sw [] N i k)) := by
  have e : ∀ a, a < N.length → ∀ j, fm p (sw [] N i k) a j = if a = k then fm p N i j else if a = i then fm p N k j else fm p N a j := fun a ha j => by
    unfold fm; rw [ent_sw3 hi hk a j ha]
    split
    · rfl
    · split <;> rfl
  refine ⟨fun a ha => ?_, fun a ha => ?_⟩
  · by_cases h1 : a = k
    · exact (LC.row _ hi).congr fun j => by rw [e a ha, if_pos h1]
    · by_cases h2 : a = i
      · exact (LC.row _ hk).congr fun j => by rw [e a ha, if_neg h1, if_pos h2]
      · exact (LC.row _ ha).congr fun j => by rw [e a ha, if_neg h1, if_neg h2]
  · by_cases h1 : a = i
    · exact (LC.row _ hk).congr fun j => by rw [e k hk, if_pos rfl, h1]
    · by_cases h2 : a = k
      · refine (LC.row _ hi).congr fun j => ?_
        rw [e i hi]
        by_cases h3 : i = k
        · rw [if_pos h3, h2, ← h3]
        · rw [if_neg h3, if_pos rfl, h2]
      · exact (LC.row _ ha).congr fun j => by rw [e a ha, if_neg h2, if_neg h1]
theorem rowEq_unit (hp : Pr p) {k c : Nat} (hk : k < N.length) (h0 : ent N k c % p ≠ 0) : RowEq N.length (fm p N) (fm p (unitN p N k c)) := by
  have hi := fz_inv hp h0
  have e : ∀ a j, fm p (unitN p N k c) a j = if a = k then fm p N k j * fz p (invN p (ent N k c)) else fm p N a j := fun a j => by
    unfold fm; rw [ent_unit hk c a j]
    split
    · rw [fz_plus, fz_zero]; grind
    · rfl
  refine ⟨fun a ha => ?_, fun a ha => ?_⟩
  · by_cases h1 : a = k
    · exact ((LC.row (fm p N) hk).add (LC.row (fm p N) hk) (fz p (invN p (ent N k c))) 0).congr fun j => by rw [e, if_pos h1]; grind
    · exact (LC.row _ ha).congr fun j => by rw [e, if_neg h1]
  · by_cases h1 : a = k
    · refine ((LC.row (fm p (unitN p N k c)) hk).add (LC.row (fm p (unitN p N k c)) hk) (fz p (ent N k c)) 0).congr fun j => ?_
      rw [e, if_pos rfl, h1]; grind
    · exact (LC.row _ ha).congr fun j => by rw [e, if_neg h1]
theorem rowEq_clear {k c : Nat} (hg : Good p n N) (hp : 0 < p) (hk : k < N.length) : RowEq N.length (fm p N) (fm p (clearN p N k c)) := by
  have e : ∀ a, a < N.length → ∀ j, fm p (clearN p N k c) a j = if a = k then fm p N k j else fm p N a j - fm p N k j * fm p N a c := fun a ha j => by
    unfold fm; rw [ent_clear hg hp hk c a j ha]
    split
    · rfl
    · rw [fz_plus, fz_neg (Nat.le_of_lt (hg.ent_lt hp a c))]; grind
  refine ⟨fun a ha => ?_, fun a ha => ?_⟩
  · by_cases h1 : a = k
    · exact (LC.row _ hk).congr fun j => by rw [e a ha, if_pos h1]
    · exact ((LC.row (fm p N) ha).add (LC.row (fm p N) hk) 1 (- fm p N a c)).congr fun j => by rw [e a ha, if_neg h1]; grind
  · by_cases h1 : a = k
    · exact (LC.row _ hk).congr fun j => by rw [e k hk, if_pos rfl, h1]
    · exact ((LC.row (fm p (clearN p N k c)) ha).add (LC.row (fm p (clearN p N k c)) hk) 1 (fm p N a c)).congr fun j => by rw [e a ha, if_neg h1, e k hk, if_pos rfl]; grind
end Steps

theorem rowEq_colStep {p n c : Nat} [NeZero p] {s : List (List Nat) × List Nat} (hp : Pr p) (hg : Good p n s.1) : RowEq s.1.length (fm p s.1) (fm p (colStep p c s).1) := by
  cases e : piv s.1 c s.2.length with
  | none => rw [colStep_none e]; exact RowEq.refl _ _
  | some i =>
    obtain ⟨h1, h2, h3⟩ := piv_some e
    have hk : s.2.length < s.1.length := by omega
    rw [colStep_some e]
    have l1 : (sw [] s.1 i s.2.length).length = s.1.length := sw_length _ _ _ _
    have g1 := hg.sw_ h2 hk
    have hk1 : s.2.length < (sw [] s.1 i s.2.length).length := by rw [l1]; exact hk
    have l2 : (unitN p (sw [] s.1 i s.2.length) s.2.length c).length = s.1.length := by rw [unitN_length, l1]
    have g2 := g1.unit_ hp.pos hk1 c
    have e0 : ent (sw [] s.1 i s.2.length) s.2.length c = ent s.1 i c := by rw [ent_sw3 h2 hk _ _ hk, if_pos rfl]
    have r1 := rowEq_sw (p := p) h2 hk
    have r2 := rowEq_unit hp (c := c) hk1 (by rw [e0, Nat.mod_eq_of_lt (hg.ent_lt hp.pos _ _)]; exact h3)
    have r3 := rowEq_clear (c := c) g2 hp.pos (k := s.2.length) (by rw [l2]; exact hk)
    rw [l1] at r2
    rw [l2] at r3
    exact (r1.trans r2).trans r3
theorem rowEq_redTo {p n : Nat} [NeZero p] {M : List (List Nat)} (hp : Pr p) (hg : Good p n M) : ∀ c, RowEq M.length (fm p M) (fm p (redTo p M c).1)
  | 0 => RowEq.refl _ _
  | c + 1 => by
    have ih := rowEq_redTo hp hg c
    have hok := redTo_ok hg hp.pos c
    have h := rowEq_colStep (c := c) hp hok.good
    rw [hok.len] at h
    exact ih.trans h

/-- What is known of the reduced form. -/
structure Rdc (p n : Nat) [NeZero p] (M R : List (List Nat)) (P : List Nat) : Prop where
  good : Good p n R
  len : R.length = M.length
  few : P.length ≤ M.length
  ech : Ech R P n
  row : RowEq M.length (fm p M) (fm p R)
theorem rdc_of {p n : Nat} [NeZero p] {M : List (List Nat)} (hp : Pr p) (hg : Good p n M) : Rdc p n M (redTo p M n).1 (redTo p M n).2 := by
  have hok := redTo_ok hg hp.pos n
  exact ⟨hok.good, hok.len, hok.few, redTo_ech hp hg n, rowEq_redTo hp hg n⟩
section
variable {p n : Nat} [NeZero p] {M R : List (List Nat)} {P : List Nat}
theorem Rdc.low (h : Rdc p n M R P) {i : Nat} (hi : P.length ≤ i) (j : Nat) : fm p R i j = 0 := by
  unfold fm
  by_cases hj : j < n
  · rw [h.ech.low i j hi hj]; rfl
  · rw [ent_wide h.good.wid i (by omega)]; rfl
/-- Each row is a combination of the rows with pivots. -/
theorem Rdc.comb (h : Rdc p n M R P) {k : Nat} (hk : k < M.length) : LC P.length (fm p R) (fm p M k) := (h.row.2 k hk).cut h.few fun _ hi j => h.low hi j
theorem Rdc.one (h : Rdc p n M R P) (i l : Nat) (_ : i < P.length) (hl : l < P.length) : fm p R i (P.getD l 0) = if i = l then 1 else 0 := by
  rw [getD_at hl]
  unfold fm
  by_cases e : i = l
  · subst e; rw [if_pos rfl, h.ech.one i hl]; rfl
  · rw [if_neg e, h.ech.zero l hl i e]; rfl
/-- No fewer rows make them all. -/
theorem Rdc.least (h : Rdc p n M R P) (hp : Pr p) {s : Nat} {D : Nat → Nat → Fin p} (hD : ∀ k, k < M.length → LC s D (fm p M k)) : P.length ≤ s :=
  rank_few (fz_one_ne hp.1) (fz_field hp) (R := fm p R) (D := D) (P := fun l => P.getD l 0) h.one fun i hi => (h.row.1 i (Nat.lt_of_lt_of_le hi h.few)).trans hD
end
end
section
theorem LC.all {z9 : Nat} [NeZero z9] {n s : Nat} {A D : Nat → Nat → Fin z9} (h : ∀ k, k < n → LC s D (A k)) : ∃ G : Nat → Nat → Fin z9, ∀ k, k < n → ∀ j, A k j = sm (fun t => G k t * D t j) s := by
  refine ⟨fun k => if hk : k < n then (h k hk).choose else fun _ => 0, fun k hk j => ?_⟩
  simp only [dif_pos hk]
  exact (h k hk).choose_spec j
/-- What makes all rows nought makes their combinations nought. -/
theorem sm_through {z9 : Nat} [NeZero z9] {n s : Nat} {A D G : Nat → Nat → Fin z9} (hG : ∀ k, k < n → ∀ j, A k j = sm (fun t => G k t * D t j) s) (x : Nat → Fin z9) (hx : ∀ t, t < s → sm (fun k => x k * G k t) n = 0) (j : Nat) : sm (fun k => x k * A k j) n = 0 := by
  have e3 : sm (fun k => x k * A k j) n = sm (fun k => sm (fun t => x k * G k t * D t j) s) n := sm_congr n fun k hk => by
    rw [hG k hk, ← sm_mul]
    exact sm_congr s fun t _ => by grind
  rw [e3, sm_comm]
  exact sm_none s fun t ht => by rw [sm_mulr, hx t ht]; grind

section
variable {p n q : Nat} {N : List (List Nat)}
theorem ent_aug (hw : ∀ r ∈ N, r.length = q) {i j : Nat} (hi : i < N.length) : ent (augN N) i j = if j < q then ent N i j else if j - q = i ∧ j - q < N.length then 1 else 0 := by
  have h1 : i < (augN N).length := by rw [augN_length]; exact hi
  have hl : N[i].length = q := hw _ (List.getElem_mem hi)
  have hI : i < (idN N.length).length := by rw [idN_length]; exact hi
  rw [ent_row h1, augN_at hi h1, List.getD_eq_getElem?_getD, List.getElem?_append, hl]
  by_cases hj : j < q
  · rw [if_pos hj, if_pos hj, ent_row hi, List.getD_eq_getElem?_getD]
  · rw [if_neg hj, if_neg hj]
    have e : (idN N.length)[i] = (List.range N.length).map (fun k => if i = k then 1 else 0) := by simp [idN, mtab]
    rw [e, List.getElem?_map]
    by_cases hj2 : j - q < N.length
    · rw [List.getElem?_range hj2]
      by_cases e2 : i = j - q
      · rw [if_pos ⟨e2.symm, hj2⟩]; simp [e2]
      · rw [if_neg (fun h => e2 h.1.symm)]; simp [e2]
    · rw [List.getElem?_eq_none (by simp; omega), if_neg (fun h => hj2 h.2)]; rfl
theorem aug_good (hp : 1 < p) (hg : Good p q N) : Good p (q + N.length) (augN N) := augN_good hp hg

/-- All rows hold a pivot. -/
theorem aug_full (hp : Pr p) (hg : Good p q N) : (redTo p (augN N) (q + N.length)).2.length = N.length := by
  haveI : NeZero p := ⟨by have := hp.pos; omega⟩
  have h := rdc_of hp (aug_good hp.1 hg)
  have hl : (augN N).length = N.length := augN_length N
  refine Nat.le_antisymm (by have := h.few; rw [hl] at this; exact this) (Nat.le_of_not_lt fun hlt => ?_)
  obtain ⟨G, hG⟩ := LC.all (fun k hk => h.comb hk)
  rw [hl] at hG
  obtain ⟨x, ⟨l, hll, hxl⟩, hs⟩ := nontriv (fz_one_ne hp.1) (fz_field hp) _ N.length G hlt
  have h0 := sm_through hG x hs (q + l)
  have h1 : sm (fun k => x k * fm p (augN N) k (q + l)) N.length = x l := by
    have e : ∀ k, k < N.length → fm p (augN N) k (q + l) = if l = k then 1 else 0 := fun k hk => by
      unfold fm
      rw [ent_aug hg.wid hk, if_neg (by omega), show q + l - q = l from by omega]
      by_cases e : l = k
      · rw [if_pos ⟨e, hll⟩, if_pos e]; rfl
      · rw [if_neg (fun h => e h.1), if_neg e]; rfl
    rw [sm_one hll (fun k hk hne => by rw [e k hk, if_neg (fun h => hne h.symm)]; grind), e l hll, if_pos rfl]; grind
  exact hxl (h1.symm.trans h0)
end

theorem inv_full {p : Nat} {M : List (List Nat)} (hp : Pr p) (hs : Sq M) : (redN p (augN (modN p M))).2.length = M.length := by
  have hg := modN_good hp.pos M
  have hl := modN_length p M
  have hc : cols (augN (modN p M)) = cols M + (modN p M).length := by
    rw [cols_eq _ (by rw [augN_length, hl]; exact hs.1)]
    exact (aug_good hp.1 hg).wid _ (List.getElem_mem _)
  have h := aug_full hp hg
  show (redTo p (augN (modN p M)) (cols (augN (modN p M)))).2.length = _
  rw [hc, h, hl]

theorem mod_idN {p n : Nat} (hp : 1 < p) : (idN n).map (nrm p) = idN n := by
  simp only [idN, mtab, List.map_map]
  refine List.map_congr_left fun i _ => ?_
  simp only [Function.comp, nrm, List.map_map]
  refine List.map_congr_left fun k _ => ?_
  simp only [Function.comp]
  split
  · exact Nat.mod_eq_of_lt hp
  · exact Nat.zero_mod _
theorem modN_augR {p : Nat} {M : List (List Nat)} (hp : 1 < p) (hs : Sq M) (hr : Rect M) : modN p (augR M) = augN (modN p M) := by
  have hwid : ∀ r ∈ M, r.length = M.length := fun r hr2 => by rw [hr r hr2, ← hs.2]
  have harow := augR_row hwid
  have hc : cols (augR M) = M.length + M.length := by
    rw [cols_eq _ (by rw [augR_length]; exact hs.1)]; exact harow _ (List.getElem_mem _)
  have hrect : Rect (augR M) := fun r h => by rw [hc]; exact harow r h
  rw [← rnormN_eq hrect, ← rnormN_eq hr]
  unfold rnormN augR augN
  rw [List.length_map]
  have h := mod_idN (n := M.length) hp
  have key : ∀ A B : List (List Nat), (List.zipWith (· ++ ·) A B).map (nrm p) = List.zipWith (· ++ ·) (A.map (nrm p)) (B.map (nrm p)) := fun A B => by
    induction A generalizing B with
    | nil => simp
    | cons a A ih => cases B with
      | nil => simp
      | cons b B => simp only [List.zipWith_cons_cons, List.map_cons, ih]; simp [nrm]
  rw [key, h]

/-- Rising pivots, as many as rows: the last one is the last row's if all are in place. -/
theorem piv_place {R : List (List Nat)} {P : List Nat} {c n : Nat} (he : Ech R P c) (hl : P.length = n) (hn : 0 < n) : (P.getD (n - 1) 0 = n - 1) ↔ ∀ j, j < n → P.getD j n = j := by
  have up : ∀ d i (h : i + d < P.length), P[i]'(by omega) + d ≤ P[i + d] := by
    intro d
    induction d with
    | zero => intro i h; simp
    | succ d ih =>
      intro i h
      have h1 := ih i (by omega)
      have h2 := he.rise (i + d) (i + (d + 1)) (by omega) h (by omega)
      omega
  have low : ∀ i (h : i < P.length), i ≤ P[i] := fun i h => by
    have := up i 0 (by omega)
    simp only [Nat.zero_add] at this
    omega
  constructor
  · intro h j hj
    rw [getD_at (show n - 1 < P.length by omega)] at h
    rw [getD_at (show j < P.length by omega)]
    have h1 := low j (by omega)
    have h2 := up (n - 1 - j) j (by omega)
    have e : j + (n - 1 - j) = n - 1 := by omega
    simp only [e] at h2
    omega
  · intro h
    have := h (n - 1) (by omega)
    rw [getD_at (show n - 1 < P.length by omega)] at this ⊢
    exact this
theorem inv_ech {p : Nat} {M : List (List Nat)} (hp : Pr p) (hs : Sq M) : Ech (redN p (augN (modN p M))).1 (redN p (augN (modN p M))).2 (cols M + M.length) ∧ Good p (cols M + M.length) (redN p (augN (modN p M))).1 ∧ (redN p (augN (modN p M))).1.length = M.length := by
  have hg := modN_good hp.pos M
  have hl := modN_length p M
  have hc : cols (augN (modN p M)) = cols M + M.length := by
    rw [cols_eq _ (by rw [augN_length, hl]; exact hs.1)]
    exact ((aug_good hp.1 hg).wid _ (List.getElem_mem _)).trans (by rw [hl])
  have hg2 := aug_good hp.1 hg
  rw [hl] at hg2
  have hok := redTo_ok hg2 hp.pos (cols M + M.length)
  have he := redTo_ech hp hg2 (cols M + M.length)
  show Ech (redTo p (augN (modN p M)) (cols (augN (modN p M)))).1 (redTo p (augN (modN p M)) (cols (augN (modN p M)))).2 (cols M + M.length) ∧ Good p (cols M + M.length) (redTo p (augN (modN p M)) (cols (augN (modN p M)))).1 ∧ (redTo p (augN (modN p M)) (cols (augN (modN p M)))).1.length = M.length
  rw [hc]
  exact ⟨he, hok.good, by rw [hok.len, augN_length, hl]⟩
/-- What stands behind the identity, row by row or by entries. -/
theorem invM_eq {p : Nat} {M : List (List Nat)} (hp : Pr p) (hs : Sq M) : invM p (modN p M) = (redN p (augN (modN p M))).1.map (List.drop M.length) := by
  obtain ⟨_, hg, hl⟩ := inv_ech hp hs
  have hn := modN_length p M
  unfold invM
  rw [hn]
  have hq : cols M = M.length := hs.2.symm
  apply List.ext_getElem (by simp [mtab, hl])
  intro i h1 h2
  have hi : i < (redN p (augN (modN p M))).1.length := by simpa using h2
  have hw := hg.len hi
  simp only [mtab, List.getElem_map, List.getElem_range]
  apply List.ext_getElem (by simp [hw]; omega)
  intro k k1 k2
  have hk : k < M.length := by simpa using k1
  simp only [List.getElem_map, List.getElem_range, List.getElem_drop]
  exact ent_at hi (by omega)
end
section
open Go.RowKit

theorem SqErr.at_ {p : Nat} {A : Option Addr} {n c : Nat} {w W : World} {code : Int} (h : SqErr p A n c w code) (hW : Below w.heap.size w W) : SqErr p A n c W code := fun V hV => h V (hW.trans (hV.mono hW.size))
theorem RdErr.at_ {p : Nat} {A : Option Addr} {n c : Nat} {w W : World} {code : Int} (h : RdErr p A n c w code) (hW : Below w.heap.size w W) : RdErr p A n c W code := fun V q hb hV => h V q hb (hW.trans (hV.mono hW.size))

/-- What comes in. -/
structure Comes (p : Nat) (A : Option Addr) (c : Nat) (M : List (List Nat)) (w : World) : Prop where
  lt : p < 4294967296
  bas : Bases w
  rd : RdM w w.heap.size A M
  cap : M.length ≤ c
  sz : Sized M
  row : ∀ r ∈ M, r.length ≤ 1099511627776
theorem Comes.takes {p : Nat} {A : Option Addr} {c : Nat} {M : List (List Nat)} {w : World} (h : Comes p A c M w) (hp : Pr p) (hr : Rect M) : Takes p A c M w w.heap.size := ⟨hp, h.lt, h.bas, h.rd, Nat.le_refl _, h.cap, h.sz, hr⟩
/-- Either an error, or a square matrix that is taken. -/
theorem Comes.sqCases {p : Nat} {A : Option Addr} {c : Nat} {M : List (List Nat)} {w : World} (h : Comes p A c M w) :
    (∃ code : Int, (code != 0) = true ∧ SquareIs p M code ∧ SqErr p A M.length c w code) ∨ (SquareIs p M 0 ∧ Takes p A c M w w.heap.size ∧ Sq M) := by
  by_cases h1 : Pr p
  · by_cases h2 : Rect M
    · by_cases h3 : Sq M
      · exact .inr ⟨.inr (.inr ⟨h1, h2, h3, rfl⟩), h.takes h1 h2, h3⟩
      · exact .inl ⟨3, by decide, .inr (.inl ⟨h1, h2, h3, rfl⟩), sqErr_not (h.takes h1 h2) h3⟩
    · exact .inl ⟨2, by decide, .inl ⟨2, .inr (.inl ⟨h1, h2, rfl⟩), by decide, rfl⟩, sqErr_shape h1 h.lt h.bas h.rd (Nat.le_refl _) h.cap h.sz h2⟩
  · exact .inl ⟨40, by decide, .inl ⟨40, .inl ⟨h1, rfl⟩, by decide, rfl⟩, sqErr_prime h1 h.lt h.bas⟩
theorem Comes.rdCases {p : Nat} {A : Option Addr} {c : Nat} {M : List (List Nat)} {w : World} (h : Comes p A c M w) :
    (∃ code : Int, (code != 0) = true ∧ FaultIs p M code ∧ RdErr p A M.length c w code) ∨ (FaultIs p M 0 ∧ Takes p A c M w w.heap.size) := by
  by_cases h1 : Pr p
  · by_cases h2 : Rect M
    · exact .inr ⟨.inr (.inr ⟨h1, h2, rfl⟩), h.takes h1 h2⟩
    · exact .inl ⟨2, by decide, .inr (.inl ⟨h1, h2, rfl⟩), rdErr_shape h1 h.lt h.bas h.rd (Nat.le_refl _) h.cap h.sz h2⟩
  · exact .inl ⟨40, by decide, .inl ⟨h1, rfl⟩, rdErr_prime h1 h.lt h.bas⟩
theorem Comes.below {p : Nat} {A : Option Addr} {c : Nat} {M : List (List Nat)} {w W : World} (h : Comes p A c M w) (hW : Below w.heap.size w W) : Comes p A c M W :=
  ⟨h.lt, h.bas.below hW h.bas.lt, (h.rd.below hW).mono hW.size, h.cap, h.sz, h.row⟩

theorem modmatNames_walk (w : World) (hw : Bases w) : Calls Tryd.prog 3 #[] w fun r w' => r = .returned (.bool true) ∧ Below w.heap.size w w' := by
  have H := Lib.hid (lawake_any w hw)
  have Hn := Lib.hid (fun k W => lnum_any k W)
  clear hw
  go_enter Tryd.func3, Tryd.ntmps3
  go_wp2_with (first
    | (go_at_call 11; (with_reducible refine (Hn.out _ _).mono ?_); rintro e w2 ⟨rfl, rfl⟩)
    | (go_at_call 12; (with_reducible refine H.out.mono ?_); rintro e w2 ⟨rfl, hb⟩))
  go_ret
  exact ⟨rfl, hb⟩

/-- The reference's trace. -/
def rtrcN (p : Nat) (M : List (List Nat)) : Nat → Nat
  | 0 => 0
  | k + 1 => (rtrcN p M k + ent M k k) % p
theorem rtrcN_lt {p : Nat} (hp : 0 < p) (M : List (List Nat)) : ∀ k, rtrcN p M k < p
  | 0 => hp
  | _ + 1 => Nat.mod_lt _ hp
theorem rtrcN_eq {p : Nat} {M : List (List Nat)} (h : Rect M) : ∀ k, trcN p (modN p M) k = rtrcN p M k
  | 0 => rfl
  | k + 1 => by rw [trcN, rtrcN, rtrcN_eq h k, ent_modN h]; simp [plusN]

set_option maxHeartbeats 3200000 in
set_option maxRecDepth 100000 in
theorem modmatPowers_walk (p x : Nat) (A : Option Addr) (c : Nat) (M : List (List Nat)) (w : World) (h : Comes p A c M w) (hx : x < 18446744073709551616) :
    Calls Tryd.prog 4 #[.slice A M.length c, .int .u64 (x : Int), .int .u32 (p : Int)] w fun r w' => r = .returned (.bool true) ∧ Below w.heap.size w w' := by
  have hm : M.length ≤ 281474976710656 := by have := h.sz.rows; omega
  have Haw : Hid (∀ W, Below w.heap.size w W → Calls Tryd.prog 12 #[] W fun r w' => r = .returned (.bool true) ∧ Below W.heap.size W w') := fun W hW => lawake_any W (h.bas.below hW h.bas.lt)
  rcases h.sqCases with ⟨code, hc, hsq, herr⟩ | ⟨hsq, hT, hS⟩
  · have Hsq : Hid (∀ W, Below w.heap.size w W → Calls Tryd.prog 16 #[.int .u32 (p : Int), .slice A M.length c] W fun e w' => e = .returned (.int .i64 code) ∧ Below W.heap.size W w') := fun W hW => square_any p A c M W W.heap.size code hsq h.lt (h.below hW).rd (Nat.le_refl _) hm
    have Hpow : Hid (∀ W, Below w.heap.size w W → Calls Tryd.prog 13 #[.slice A M.length c, .int .u64 (x : Int), .int .u32 (p : Int)] W fun e w' => e = .returned (.tuple #[.slice none 0 0, .int .i64 code]) ∧ Below W.heap.size W w') := fun W hW => pow_err p x A M.length c W code hc (herr.at_ hW)
    have Htr : Hid (∀ W, Below w.heap.size w W → Calls Tryd.prog 14 #[.slice A M.length c, .int .u32 (p : Int)] W fun e w' => e = .returned (.tuple #[.int .u32 0, .int .i64 code]) ∧ Below W.heap.size W w') := fun W hW => trace_err p A M.length c W code hc (herr.at_ hW)
    have Hdt : Hid (∀ W, Below w.heap.size w W → Calls Tryd.prog 15 #[.slice A M.length c, .int .u32 (p : Int)] W fun e w' => e = .returned (.tuple #[.int .u32 0, .int .i64 code]) ∧ Below W.heap.size W w') := fun W hW => det_err p A M.length c W code hc (herr.at_ hW)
    have Hto : Hid (∀ W, Calls Tryd.prog 17 #[.slice none 0 0, .int .i64 code, .slice none 0 0, .int .i64 code] W fun e w' => e = .returned (.bool true) ∧ Dr W w') := fun W => told_err none none 0 0 0 code hc W
    have Hnu : Hid (∀ W, Calls Tryd.prog 18 #[.int .u32 0, .int .i64 code, .int .u32 0, .int .i64 code] W fun e w' => e = .returned (.bool true) ∧ Dr W w') := fun W => number_err 0 code hc W
    clear hsq herr h hm
    go_enter Tryd.func4, Tryd.ntmps4
    go_wp2_with (first
      | (go_at_call 13; (with_reducible refine (Hpow.out _ (Below.refl _ _)).mono ?_); rintro e w1 ⟨rfl, hb1⟩)
      | (go_at_call 14; (with_reducible refine (Htr.out _ hb1).mono ?_); rintro e w2 ⟨rfl, hb⟩; have hb2 := hb1.trans (hb.mono hb1.size); clear hb)
      | (go_at_call 15; (with_reducible refine (Hdt.out _ hb2).mono ?_); rintro e w3 ⟨rfl, hb⟩; have hb3 := hb2.trans (hb.mono hb2.size); clear hb)
      | (go_at_call 16; (with_reducible refine (Hsq.out _ hb3).mono ?_); rintro e w4 ⟨rfl, hb⟩; have hb4 := hb3.trans (hb.mono hb3.size); clear hb)
      | (go_at_call 17; (with_reducible refine (Hto.out _).mono ?_); rintro e w5 ⟨rfl, hd⟩; have hb5 := hb4.trans (hd.below _); clear hd)
      | (go_at_call 18; (with_reducible refine (Hnu.out _).mono ?_); rintro e w6 ⟨rfl, hd⟩; have hb5 := hb5.trans (hd.below _); clear hd)
      | (go_at_call 12; (with_reducible refine (Haw.out _ hb5).mono ?_); rintro e w7 ⟨rfl, hb⟩; have hb7 := hb5.trans (hb.mono hb5.size); clear hb))
    go_ret
    exact ⟨rfl, hb7⟩
  · have hpr := hT.pr
    have hp0 := hpr.pos
    have hp1 : 1 < p := hpr.1
    have hlt := h.lt
    have hrect := hT.rect
    have hrows := h.sz.rows
    have hwi : ∀ i (h : i < M.length), M[i].length = M.length := fun i hi => by rw [hrect.at_ i hi, ← hS.2]
    have hdig : ∀ i k (hi : i < M.length) (hk : k < M[i].length), M[i][k] < 4294967296 := fun i k hi hk => h.sz.dig.at_ hi hk
    have Hsq : Hid (∀ W, Below w.heap.size w W → Calls Tryd.prog 16 #[.int .u32 (p : Int), .slice A M.length c] W fun e w' => e = .returned (.int .i64 0) ∧ Below W.heap.size W w') := fun W hW => square_any p A c M W W.heap.size 0 hsq h.lt (h.below hW).rd (Nat.le_refl _) hm
    have Hpow := Lib.hid (pow_ok p x A c M w w.heap.size hT hS hx)
    have Htr : Hid (∀ W, Below w.heap.size w W → Calls Tryd.prog 14 #[.slice A M.length c, .int .u32 (p : Int)] W fun e w' => e = .returned (.tuple #[.int .u32 (rtrcN p M M.length : Int), .int .i64 0]) ∧ Below W.heap.size W w') := fun W hW => by
      have h9 := trace_ok p A c M W w.heap.size (hT.below hW) hS
      rw [rtrcN_eq hrect] at h9
      exact h9
    have Hdt : Hid (∀ W, Below w.heap.size w W → Calls Tryd.prog 15 #[.slice A M.length c, .int .u32 (p : Int)] W fun e w' => e = .returned (.tuple #[.int .u32 (detN p (modN p M) : Int), .int .i64 0]) ∧ Below W.heap.size W w') := fun W hW => det_ok p A c M W w.heap.size (hT.below hW) hS
    have Hrpow : Hid (∀ W, Below w.heap.size w W → Calls Tryd.prog 20 #[.slice A M.length c, .int .u64 (x : Int), .int .u32 (p : Int)] W fun e w' => ∃ A' c', e = .returned (.slice A' M.length c') ∧ M.length ≤ c' ∧ RdM w' w'.heap.size A' (powN p (idN M.length) (modN p M) x) ∧ Below W.heap.size W w') := fun W hW => rpowM_any p x A c M W W.heap.size hp1 hlt (h.below hW).rd (Nat.le_refl _) hrows hrect hS hx
    have Hrdt : Hid (∀ W, Below w.heap.size w W → Calls Tryd.prog 21 #[.slice A M.length c, .int .u32 (p : Int)] W fun e w' => e = .returned (.int .u32 (detN p (modN p M) : Int)) ∧ Below W.heap.size W w') := fun W hW => rdet_any p A c M W W.heap.size hpr hlt (h.below hW).rd (Nat.le_refl _) hrows hS hrect
    have Hnu : Hid (∀ (x : Int) W, Calls Tryd.prog 18 #[.int .u32 x, .int .i64 0, .int .u32 x, .int .i64 0] W fun e w' => e = .returned (.bool true) ∧ Dr W w') := fun x W => number_ok x W
    have Hadd := Lib.hid (fun a b ha hb W => radd_any a b p ha hb hlt hp0 W)
    have htl := fun k => rtrcN_lt hp0 M k
    have Htl : Hid (∀ k, rtrcN p M k < p) := htl
    have Hrd := Lib.hid h.rd
    have Hwi : Hid (∀ i (h : i < M.length), M[i].length = M.length) := hwi
    have Hdig : Hid (∀ i k (hi : i < M.length) (hk : k < M[i].length), M[i][k] < 4294967296) := hdig
    obtain ⟨Q, hQ⟩ : ∃ Q, Q = powN p (idN M.length) (modN p M) x := ⟨_, rfl⟩
    rw [← hQ] at Hpow
    simp only [← hQ] at Hrpow
    obtain ⟨D, hD⟩ : ∃ D, D = detN p (modN p M) := ⟨_, rfl⟩
    simp only [← hD] at Hdt Hrdt
    obtain ⟨T, hT9⟩ : ∃ T, T = rtrcN p M M.length := ⟨_, rfl⟩
    simp only [← hT9] at Htr
    have HT9 := Lib.hid hT9
    clear hsq h hT hS hrect hwi hdig hQ hD hT9 htl
    go_enter Tryd.func4, Tryd.ntmps4
    go_wp2_with (first
      | (go_at_call 13; (with_reducible refine Hpow.out.mono ?_); rintro e w1 ⟨A1, rfl, hr1, hQl, hb1⟩)
      | (go_at_call 14; (with_reducible refine (Htr.out _ hb1).mono ?_); rintro e w2 ⟨rfl, hb⟩; have hb2 := hb1.trans (hb.mono hb1.size); have hr2 := (hr1.below hb).mono hb.size; clear hb)
      | (go_at_call 15; (with_reducible refine (Hdt.out _ hb2).mono ?_); rintro e w3 ⟨rfl, hb⟩; have hb3 := hb2.trans (hb.mono hb2.size); have hr3 := (hr2.below hb).mono hb.size; clear hb)
      | (go_at_call 16; (with_reducible refine (Hsq.out _ hb3).mono ?_); rintro e w4 ⟨rfl, hb⟩; have hb4 := hb3.trans (hb.mono hb3.size); have hr4 := (hr3.below hb).mono hb.size; clear hb))
    clear hr1 hr2 hr3 hb1 hb2 hb3
    go_loop [14, 61] (fun tv iv => ∃ (i t : Nat), i ≤ M.length ∧ iv = .int .i64 (i : Int) ∧ tv = .int .u32 (t : Int) ∧ Hid (t = rtrcN p M i)) (fun _ iv => M.length - (intOf iv).toNat)
    case atStart => exact ⟨0, 0, by omega, rfl, rfl, rfl⟩
    case round =>
      obtain ⟨i, t, hi, rfl, rfl, Ht⟩ := hrel
      by_cases hil : i < M.length
      · obtain ⟨b, off, Ai, ci, rfl, hb, hx1, hl2, hm2, hrd⟩ := (Hrd.out.below hb4).at_ hil
        have wi := Hwi.out i hil
        have hii : i < M[i].length := by rw [wi]; exact hil
        obtain ⟨b2, o2, rfl, hb2, hx2⟩ := hrd.at32 hii
        have hent := ent_at hil hii
        have hdg := Hdig.out i i hil hii
        rw [← hent] at hx2 hdg
        rw [wi] at hx1
        have hti := Htl.out i
        have htlt : t < p := by rw [Ht.out]; exact hti
        obtain ⟨y, hy⟩ : ∃ y, y = ent M i i := ⟨_, rfl⟩
        rw [← hy] at hx2 hdg
        have Ha := Lib.hid (fun W => Hadd.out t y (by omega) hdg W)
        obtain ⟨t2, ht2⟩ : ∃ t2, t2 = (t + y) % p := ⟨_, rfl⟩
        simp only [← ht2] at Ha
        have Ht2 : Hid (t2 = rtrcN p M (i + 1)) := by show _ = _; rw [ht2, rtrcN, ← Ht.out, hy]
        clear hent hy ht2 wi hii hl2 hrd
        go_wp2_with (go_at_call 19; (with_reducible refine (Ha.out _).mono ?_); rintro e w4 ⟨rfl, rfl⟩)
        go_round
        case rel => exact ⟨i + 1, t2, by omega, by go_num, rfl, Ht2⟩
        case measure => simp [intOf]; omega
      · have hie : i = M.length := by omega
        have hge : M.length ≤ i := by omega
        have htT : t = T := by rw [Ht.out, HT9.out, hie]
        subst htT
        clear hie
        go_wp2_with (first
          | (go_at_call 20; (with_reducible refine (Hrpow.out _ hb4).mono ?_); rintro e w5 ⟨A5, c5, rfl, hc5, hr5, hb⟩; have hb5 := hb4.trans (hb.mono hb4.size); have hr6 := (hr4.below hb).mono hb.size; have Hto := Lib.hid (told_ok A1 A5 M.length c5 M.length M.length Q Q w5 _ _ hr6 hr5 hQl.symm hQl.symm (by rw [hQl]; exact hm) rfl); clear hb)
          | (go_at_call 17; (with_reducible refine Hto.out.mono ?_); rintro e w6 ⟨rfl, hd⟩; have hb6 := hb5.trans (hd.below _); clear hd)
          | (go_at_call 21; (with_reducible refine (Hrdt.out _ hb7).mono ?_); rintro e w8 ⟨rfl, hb⟩; have hb8 := hb7.trans (hb.mono hb7.size); clear hb)
          | (go_at_call 18; (with_reducible refine (Hnu.out _ _).mono ?_); rintro e w9 ⟨rfl, hd⟩; have hb7 := (by first | exact hb8.trans (hd.below _) | exact hb6.trans (hd.below _)); clear hd)
          | (go_at_call 12; (with_reducible refine (Haw.out _ hb7).mono ?_); rintro e w7 ⟨rfl, hb⟩; have hb9 := hb7.trans (hb.mono hb7.size); clear hb))
        go_ret
        exact ⟨rfl, hb9⟩

set_option maxHeartbeats 3200000 in
set_option maxRecDepth 100000 in
theorem modmatInverts_walk (p : Nat) (A : Option Addr) (c : Nat) (M : List (List Nat)) (w : World) (h : Comes p A c M w) :
    Calls Tryd.prog 6 #[.slice A M.length c, .int .u32 (p : Int)] w fun r w' => r = .returned (.bool true) ∧ Below w.heap.size w w' := by
  have hm : M.length ≤ 281474976710656 := by have := h.sz.rows; omega
  have Haw : Hid (∀ W, Below w.heap.size w W → Calls Tryd.prog 12 #[] W fun r w' => r = .returned (.bool true) ∧ Below W.heap.size W w') := fun W hW => lawake_any W (h.bas.below hW h.bas.lt)
  rcases h.sqCases with ⟨code, hc, hsq, herr⟩ | ⟨hsq, hT, hS⟩
  · have Hsq : Hid (∀ W, Below w.heap.size w W → Calls Tryd.prog 16 #[.int .u32 (p : Int), .slice A M.length c] W fun e w' => e = .returned (.int .i64 code) ∧ Below W.heap.size W w') := fun W hW => square_any p A c M W W.heap.size code hsq h.lt (h.below hW).rd (Nat.le_refl _) hm
    have Hinv := Lib.hid (inverse_err p A M.length c w code hc herr)
    have Hto : Hid (∀ W, Calls Tryd.prog 17 #[.slice none 0 0, .int .i64 code, .slice none 0 0, .int .i64 code] W fun e w' => e = .returned (.bool true) ∧ Dr W w') := fun W => told_err none none 0 0 0 code hc W
    clear hsq herr h hm
    go_enter Tryd.func6, Tryd.ntmps6
    go_wp2_with (first
      | (go_at_call 31; (with_reducible refine Hinv.out.mono ?_); rintro e w1 ⟨rfl, hb1⟩)
      | (go_at_call 16; (with_reducible refine (Hsq.out _ hb1).mono ?_); rintro e w4 ⟨rfl, hb⟩; have hb4 := hb1.trans (hb.mono hb1.size); clear hb)
      | (go_at_call 17; (with_reducible refine (Hto.out _).mono ?_); rintro e w5 ⟨rfl, hd⟩; have hb5 := hb4.trans (hd.below _); clear hd)
      | (go_at_call 12; (with_reducible refine (Haw.out _ hb5).mono ?_); rintro e w7 ⟨rfl, hb⟩; have hb7 := hb5.trans (hb.mono hb5.size); clear hb))
    go_ret
    exact ⟨rfl, hb7⟩
  · have hpr := hT.pr
    have hp1 : 1 < p := hpr.1
    have hlt := h.lt
    have hrect := hT.rect
    have hrows := h.sz.rows
    have hfull := inv_full hpr hS
    obtain ⟨hech, _, _⟩ := inv_ech hpr hS
    have hplace := piv_place hech hfull hS.1
    have Hsq : Hid (∀ W, Below w.heap.size w W → Calls Tryd.prog 16 #[.int .u32 (p : Int), .slice A M.length c] W fun e w' => e = .returned (.int .i64 0) ∧ Below W.heap.size W w') := fun W hW => square_any p A c M W W.heap.size 0 hsq h.lt (h.below hW).rd (Nat.le_refl _) hm
    have hinv := inverse_ok p A c M w w.heap.size hT hS hfull
    have hrinv : ∀ W, Below w.heap.size w W → _ := fun W hW => rinverse_any p A c M W W.heap.size hpr hlt (h.below hW).rd (Nat.le_refl _) hrows hS hrect
    rw [modN_augR hp1 hS hrect] at hrinv
    rw [invM_eq hpr hS] at hinv
    have hQl : ((redN p (augN (modN p M))).1.map (List.drop M.length)).length = M.length := by rw [List.length_map]; exact (inv_ech hpr hS).2.2
    obtain ⟨Q, hQ⟩ : ∃ Q, Q = (redN p (augN (modN p M))).1.map (List.drop M.length) := ⟨_, rfl⟩
    simp only [← hQ] at hinv hrinv hQl
    obtain ⟨P, hP⟩ : ∃ P, P = (redN p (augN (modN p M))).2 := ⟨_, rfl⟩
    rw [← hP] at hplace hinv
    simp only [← hP] at hrinv
    by_cases hpl : ∀ j, j < M.length → P.getD j M.length = j
    · have Hinv : Hid (Calls Tryd.prog 31 #[.slice A M.length c, .int .u32 (p : Int)] w fun e w' => ∃ A1, e = .returned (.tuple #[.slice A1 M.length M.length, .int .i64 0]) ∧ RdM w' w'.heap.size A1 Q ∧ Below w.heap.size w w') := hinv.mono fun e w' ⟨h1, _, h3⟩ => by
        obtain ⟨A1, h4, h5⟩ := h1 (hplace.2 hpl)
        exact ⟨A1, h4, h5, h3⟩
      have Hrinv : Hid (∀ W, Below w.heap.size w W → Calls Tryd.prog 32 #[.slice A M.length c, .int .u32 (p : Int)] W fun e w' => ∃ A' c', e = .returned (.tuple #[.slice A' M.length c', .bool true]) ∧ RdM w' w'.heap.size A' Q ∧ Below W.heap.size W w') := fun W hW => (hrinv W hW).mono fun e w' ⟨h1, h2⟩ => by
        rcases h1 with ⟨A', c', h3, _, _, h4⟩ | ⟨_, j, h3, h4⟩
        · exact ⟨A', c', h3, h4, h2⟩
        · exact absurd (hpl j h3) h4
      clear hsq h hT hS hrect hinv hrinv hpl hplace hech hfull hQ hP
      go_enter Tryd.func6, Tryd.ntmps6
      go_wp2_with (first
        | (go_at_call 31; (with_reducible refine Hinv.out.mono ?_); rintro e w1 ⟨A1, rfl, hr1, hb1⟩)
        | (go_at_call 16; (with_reducible refine (Hsq.out _ hb1).mono ?_); rintro e w4 ⟨rfl, hb⟩; have hb4 := hb1.trans (hb.mono hb1.size); have hr4 := (hr1.below hb).mono hb.size; clear hb)
        | (go_at_call 32; (with_reducible refine (Hrinv.out _ hb4).mono ?_); rintro e w5 ⟨A5, c5, rfl, hr5, hb⟩; have hb5 := hb4.trans (hb.mono hb4.size); have hr6 := (hr4.below hb).mono hb.size; have Hto := Lib.hid (told_ok A1 A5 M.length c5 M.length M.length Q Q w5 _ _ hr6 hr5 hQl.symm hQl.symm (by rw [hQl]; exact hm) rfl); clear hb)
        | (go_at_call 17; (with_reducible refine Hto.out.mono ?_); rintro e w6 ⟨rfl, hd⟩; have hb6 := hb5.trans (hd.below _); clear hd)
        | (go_at_call 12; (with_reducible refine (Haw.out _ hb6).mono ?_); rintro e w7 ⟨rfl, hb⟩; have hb7 := hb6.trans (hb.mono hb6.size); clear hb))
      go_ret
      exact ⟨rfl, hb7⟩
    · have Hinv : Hid (Calls Tryd.prog 31 #[.slice A M.length c, .int .u32 (p : Int)] w fun e w' => e = .returned (.tuple #[.slice none 0 0, .int .i64 7]) ∧ Below w.heap.size w w') := hinv.mono fun e w' ⟨_, h2, h3⟩ => ⟨h2 (fun e => hpl (hplace.1 e)), h3⟩
      have Hrinv : Hid (∀ W, Below w.heap.size w W → Calls Tryd.prog 32 #[.slice A M.length c, .int .u32 (p : Int)] W fun e w' => e = .returned (.tuple #[.slice none 0 0, .bool false]) ∧ Below W.heap.size W w') := fun W hW => (hrinv W hW).mono fun e w' ⟨h1, h2⟩ => by
        rcases h1 with ⟨A', c', _, _, h3, _⟩ | ⟨h3, _⟩
        · exact absurd h3 hpl
        · exact ⟨h3, h2⟩
      have Hto : Hid (∀ W, Calls Tryd.prog 17 #[.slice none 0 0, .int .i64 7, .slice none 0 0, .int .i64 7] W fun e w' => e = .returned (.bool true) ∧ Dr W w') := fun W => told_err none none 0 0 0 7 (by decide) W
      clear hsq h hT hS hrect hinv hrinv hpl hplace hech hfull hQ hP hQl
      go_enter Tryd.func6, Tryd.ntmps6
      go_wp2_with (first
        | (go_at_call 31; (with_reducible refine Hinv.out.mono ?_); rintro e w1 ⟨rfl, hb1⟩)
        | (go_at_call 16; (with_reducible refine (Hsq.out _ hb1).mono ?_); rintro e w4 ⟨rfl, hb⟩; have hb4 := hb1.trans (hb.mono hb1.size); clear hb)
        | (go_at_call 32; (with_reducible refine (Hrinv.out _ hb4).mono ?_); rintro e w5 ⟨rfl, hb⟩; have hb5 := hb4.trans (hb.mono hb4.size); clear hb)
        | (go_at_call 17; (with_reducible refine (Hto.out _).mono ?_); rintro e w6 ⟨rfl, hd⟩; have hb6 := hb5.trans (hd.below _); clear hd)
        | (go_at_call 12; (with_reducible refine (Haw.out _ hb6).mono ?_); rintro e w7 ⟨rfl, hb⟩; have hb7 := hb6.trans (hb.mono hb6.size); clear hb))
      go_ret
      exact ⟨rfl, hb7⟩
end
section
open Go.RowKit

theorem rdErr_code {p : Nat} {M : List (List Nat)} {code : Int} (h : FaultIs p M code) (hc : (code != 0) = true) : ¬ (Pr p ∧ Rect M) := fun ⟨h1, h2⟩ => by
  rcases h with ⟨h3, _⟩ | ⟨_, h3, _⟩ | ⟨_, _, h3⟩
  · exact h3 h1
  · exact h3 h2
  · subst h3; cases hc
/-- The error of whatever slice holds the matrix. -/
theorem Comes.rdErr {p : Nat} {A : Option Addr} {c : Nat} {M : List (List Nat)} {w : World} (h : Comes p A c M w) {code : Int} (hf : FaultIs p M code) (hc : (code != 0) = true) : RdErr p A M.length c w code := by
  rcases hf with ⟨h1, rfl⟩ | ⟨h1, h2, rfl⟩ | ⟨_, _, rfl⟩
  · exact rdErr_prime h1 h.lt h.bas
  · exact rdErr_shape h1 h.lt h.bas h.rd (Nat.le_refl _) h.cap h.sz h2
  · cases hc

set_option maxHeartbeats 3200000 in
set_option maxRecDepth 100000 in
theorem modmatReduces_walk (p : Nat) (A : Option Addr) (c : Nat) (M : List (List Nat)) (w : World) (h : Comes p A c M w) :
    Calls Tryd.prog 5 #[.slice A M.length c, .int .u32 (p : Int)] w fun r w' => r = .returned (.bool true) ∧ Below w.heap.size w w' := by
  have hm : M.length ≤ 281474976710656 := by have := h.sz.rows; omega
  have hrows := h.sz.rows
  have Haw : Hid (∀ W, Below w.heap.size w W → Calls Tryd.prog 12 #[] W fun r w' => r = .returned (.bool true) ∧ Below W.heap.size W w') := fun W hW => lawake_any W (h.bas.below hW h.bas.lt)
  have Hown : Hid (Calls Tryd.prog 22 #[.slice A M.length c] w fun e w' => ∃ A' c', e = .returned (.slice A' M.length c') ∧ RdM w' w'.heap.size A' M ∧ M.length ≤ c' ∧ Below w.heap.size w w') :=
    (own_any A c M w w.heap.size h.rd (Nat.le_refl _) hrows (fun r hr => by have := h.row r hr; omega)).mono fun e w' ⟨A', c', h1, h2, h3⟩ => by
      obtain ⟨_, h4, h5⟩ := h2.rd (Nat.le_refl _)
      exact ⟨A', c', h1, h5, h4, h3⟩
  have Hcomes : Hid (∀ A' c' W, RdM W W.heap.size A' M → M.length ≤ c' → Below w.heap.size w W → Comes p A' c' M W) := fun A' c' W h1 h2 h3 => ⟨h.lt, h.bas.below h3 h.bas.lt, h1, h2, h.sz, h.row⟩
  have hcode := h.rdCases
  have Hfa : Hid (∀ code, FaultIs p M code → ∀ W, Below w.heap.size w W → Calls Tryd.prog 26 #[.int .u32 (p : Int), .slice (some ⟨W.heap.size, 0, none⟩) 1 1] (W.alloc (.cells #[.slice A M.length c] 26)) fun e w' => e = .returned (.int .i64 code) ∧ Below W.heap.size W w') := fun code hf W hW => by
    have hb : Below W.heap.size W (W.alloc (.cells #[.slice A M.length c] 26)) := (Below.refl _ _).alloc (Nat.le_refl _) _
    refine (faults_one p A c W.heap.size M _ w.heap.size code hf h.lt (Blk.new_ rfl) (h.rd.below (hW.trans (hb.mono hW.size))) hm).mono ?_
    rintro e w' ⟨h1, rfl⟩
    exact ⟨h1, hb⟩
  rcases hcode with ⟨code, hc, hf, _⟩ | ⟨hf, hT⟩
  · have Hre : Hid (∀ A' c' W, Comes p A' c' M W → Calls Tryd.prog 23 #[.slice A' M.length c', .int .u32 (p : Int)] W fun e w' => e = .returned (.tuple #[.slice none 0 0, .slice none 0 0, .int .i64 code]) ∧ Below W.heap.size W w') := fun A' c' W hC => reduceA_err p A' M.length c' W code hc (hC.rdErr hf hc)
    have Hra : Hid (∀ A' c' W, Comes p A' c' M W → Calls Tryd.prog 24 #[.slice A' M.length c', .int .u32 (p : Int)] W fun e w' => e = .returned (.tuple #[.int .i64 0, .int .i64 code]) ∧ Below W.heap.size W w') := fun A' c' W hC => rank_err p A' M.length c' W code hc (hC.rdErr hf hc)
    have Hke : Hid (∀ A' c' W, Comes p A' c' M W → Calls Tryd.prog 25 #[.slice A' M.length c', .int .u32 (p : Int)] W fun e w' => e = .returned (.tuple #[.slice none 0 0, .int .i64 code]) ∧ Below W.heap.size W w') := fun A' c' W hC => kernelA_err p A' M.length c' W code hc (hC.rdErr hf hc)
    have Hf := Lib.hid (Hfa.out code hf)
    have Hto : Hid (∀ W, Calls Tryd.prog 17 #[.slice none 0 0, .int .i64 code, .slice none 0 0, .int .i64 code] W fun e w' => e = .returned (.bool true) ∧ Dr W w') := fun W => told_err none none 0 0 0 code hc W
    have Hn := Lib.hid (fun k W => lnum_any k W)
    have t0 : (code == code) = true := by simp
    clear hf h hm hrows Hfa
    go_enter Tryd.func5, Tryd.ntmps5
    go_wp2_with (first
      | (go_at_call 22; (with_reducible refine Hown.out.mono ?_); rintro e w1 ⟨A1, c1, rfl, hr1, hc1, hb1⟩; have hC1 := Lib.hid (Hcomes.out A1 c1 w1 hr1 hc1 hb1))
      | (go_at_call 23; (with_reducible refine (Hre.out _ _ _ hC1.out).mono ?_); rintro e w2 ⟨rfl, hb⟩; have hb2 := hb1.trans (hb.mono hb1.size); have hC2 := Lib.hid (hC1.out.below hb); clear hb)
      | (go_at_call 24; (with_reducible refine (Hra.out _ _ _ hC2.out).mono ?_); rintro e w3 ⟨rfl, hb⟩; have hb3 := hb2.trans (hb.mono hb2.size); have hC3 := Lib.hid (hC2.out.below hb); clear hb)
      | (go_at_call 25; (with_reducible refine (Hke.out _ _ _ hC3.out).mono ?_); rintro e w4 ⟨rfl, hb⟩; have hb4 := hb3.trans (hb.mono hb3.size); clear hb)
      | (go_at_call 26; (with_reducible refine (Hf.out _ hb4).mono ?_); rintro e w5 ⟨rfl, hb⟩; have hb5 := hb4.trans (hb.mono hb4.size); clear hb)
      | (go_at_call 17; (with_reducible refine (Hto.out _).mono ?_); rintro e w5 ⟨rfl, hd⟩; have hb5 := hb5.trans (hd.below _); clear hd)
      | (go_at_call 11; (with_reducible refine (Hn.out _ _).mono ?_); rintro e w5 ⟨rfl, rfl⟩)
      | (go_at_call 12; (with_reducible refine (Haw.out _ hb5).mono ?_); rintro e w7 ⟨rfl, hb⟩; have hb7 := hb5.trans (hb.mono hb5.size); clear hb))
    go_ret
    exact ⟨rfl, hb7⟩
  · have hpr := hT.pr
    have hrect := hT.rect
    have hlt := h.lt
    have hok := redN_ok (M := M) hpr.pos
    have hcl : cols M ≤ 1099511627776 := by
      cases M with
      | nil => simp [cols]
      | cons r rs => exact h.row r (by simp)
    have Hre : Hid (∀ A' c' W, Comes p A' c' M W → Calls Tryd.prog 23 #[.slice A' M.length c', .int .u32 (p : Int)] W fun e w' => ∃ A1 A2 c2, e = .returned (.tuple #[.slice A1 M.length M.length, .slice A2 (redN p (modN p M)).2.length c2, .int .i64 0]) ∧ RdM w' w'.heap.size A1 (redN p (modN p M)).1 ∧ Rd w' w'.heap.size A2 (ints (redN p (modN p M)).2) ∧ Below W.heap.size W w') := fun A' c' W hC => (reduceA_ok p A' c' M W W.heap.size (hC.takes hpr hrect)).mono fun e w' ⟨A1, A2, c2, h1, h2, h3, _, h4⟩ => ⟨A1, A2, c2, h1, h2, h3, h4⟩
    have Hra : Hid (∀ A' c' W, Comes p A' c' M W → Calls Tryd.prog 24 #[.slice A' M.length c', .int .u32 (p : Int)] W fun e w' => e = .returned (.tuple #[.int .i64 ((redN p (modN p M)).2.length : Int), .int .i64 0]) ∧ Below W.heap.size W w') := fun A' c' W hC => rank_ok p A' c' M W W.heap.size (hC.takes hpr hrect)
    have Hke : Hid (∀ A' c' W, Comes p A' c' M W → Calls Tryd.prog 25 #[.slice A' M.length c', .int .u32 (p : Int)] W fun e w' => ∃ A1 c1, e = .returned (.tuple #[.slice A1 (kerUp p (redN p (modN p M)).1 (redN p (modN p M)).2 (cols M) (cols M)).length c1, .int .i64 0]) ∧ RdM w' w'.heap.size A1 (kerUp p (redN p (modN p M)).1 (redN p (modN p M)).2 (cols M) (cols M)) ∧ Below W.heap.size W w') := fun A' c' W hC => (kernelA_ok p A' c' M W W.heap.size (hC.takes hpr hrect) hcl).mono fun e w' ⟨A1, c1, h1, h2, _, h4⟩ => ⟨A1, c1, h1, h2, h4⟩
    have Hrr : Hid (∀ W, Below w.heap.size w W → Calls Tryd.prog 27 #[.slice A M.length c, .int .u32 (p : Int)] W fun e w' => ∃ A' c' Ap cp, e = .returned (.tuple #[.slice A' M.length c', .slice Ap (redN p (modN p M)).2.length cp]) ∧ RdM w' w'.heap.size A' (redN p (modN p M)).1 ∧ Rd w' w'.heap.size Ap (ints (redN p (modN p M)).2) ∧ Below W.heap.size W w') := fun W hW => (rreduce_all p A c M W W.heap.size hpr hlt (h.below hW).rd (Nat.le_refl _) hrows (by omega) hrect).mono fun e w' ⟨A', c', Ap, cp, h1, _, _, h2, h3, h4⟩ => ⟨A', c', Ap, cp, h1, h2, h3, h4⟩
    have Hrk : Hid (∀ W, Below w.heap.size w W → Calls Tryd.prog 29 #[.slice A M.length c, .int .u32 (p : Int)] W fun e w' => ∃ A' c', e = .returned (.slice A' (kerUp p (redN p (modN p M)).1 (redN p (modN p M)).2 (cols M) (cols M)).length c') ∧ RdM w' w'.heap.size A' (kerUp p (redN p (modN p M)).1 (redN p (modN p M)).2 (cols M) (cols M)) ∧ Below W.heap.size W w') := fun W hW => (rkernel_any p A c M W W.heap.size hpr hlt (h.below hW).rd (Nat.le_refl _) hrows hcl hrect).mono fun e w' ⟨A', c', h1, _, h2, h3⟩ => ⟨A', c', h1, h2, h3⟩
    have hkl := kerUp_length_le p (redN p (modN p M)).1 (redN p (modN p M)).2 (cols M) (cols M)
    obtain ⟨_, hRl, hfew⟩ := hok
    obtain ⟨K, hK⟩ : ∃ K, K = kerUp p (redN p (modN p M)).1 (redN p (modN p M)).2 (cols M) (cols M) := ⟨_, rfl⟩
    simp only [← hK] at Hke Hrk hkl
    obtain ⟨R, hR⟩ : ∃ R, R = (redN p (modN p M)).1 := ⟨_, rfl⟩
    obtain ⟨P, hP⟩ : ∃ P, P = (redN p (modN p M)).2 := ⟨_, rfl⟩
    simp only [← hR, ← hP] at Hre Hra Hrr hRl hfew
    have Hf := Lib.hid (Hfa.out 0 hf)
    have Hn := Lib.hid (fun W => lnum_any 0 W)
    have Hme : Hid (∀ W, Below w.heap.size w W → RdM W W.heap.size A M) := fun W hW => (h.below hW).rd
    have hKm : K.length ≤ 281474976710656 := by omega
    have hPm : P.length ≤ 281474976710656 := by omega
    have hRm : R.length ≤ 281474976710656 := by omega
    have HRl := Lib.hid hRl
    clear hf h Hfa hT hrect hK hR hP hkl hRl
    go_enter Tryd.func5, Tryd.ntmps5
    go_wp2_with (first
      | (go_at_call 22; (with_reducible refine Hown.out.mono ?_); rintro e w1 ⟨A1, c1, rfl, hr1, hc1, hb1⟩; have hC1 := Lib.hid (Hcomes.out A1 c1 w1 hr1 hc1 hb1))
      | (go_at_call 23; (with_reducible refine (Hre.out _ _ _ hC1.out).mono ?_); rintro e w2 ⟨A2, A3, c3, rfl, hr2, hr3, hb⟩; have hb2 := hb1.trans (hb.mono hb1.size); have hC2 := Lib.hid (hC1.out.below hb); clear hb)
      | (go_at_call 24; (with_reducible refine (Hra.out _ _ _ hC2.out).mono ?_); rintro e w3 ⟨rfl, hb⟩; have hb3 := hb2.trans (hb.mono hb2.size); have hC3 := Lib.hid (hC2.out.below hb); have hr2 := (hr2.below hb).mono hb.size; have hr3 := (hr3.below hb).mono hb.size; clear hb)
      | (go_at_call 25; (with_reducible refine (Hke.out _ _ _ hC3.out).mono ?_); rintro e w4 ⟨A4, c4, rfl, hr4, hb⟩; have hb4 := hb3.trans (hb.mono hb3.size); have hC4 := Lib.hid (hC3.out.below hb); have hr2 := (hr2.below hb).mono hb.size; have hr3 := (hr3.below hb).mono hb.size; clear hb)
      | (go_at_call 26; (with_reducible refine (Hf.out _ hb4).mono ?_); rintro e w5 ⟨rfl, hb⟩; have hb5 := hb4.trans (hb.mono hb4.size); have hC5 := Lib.hid (hC4.out.below hb); have hr2 := (hr2.below hb).mono hb.size; have hr3 := (hr3.below hb).mono hb.size; have hr4 := (hr4.below hb).mono hb.size; clear hb)
      | (go_at_call 27; (with_reducible refine (Hrr.out _ hb5).mono ?_); rintro e w6 ⟨A6, c6, A7, c7, rfl, hr6, hr7, hb⟩; have hb6 := hb5.trans (hb.mono hb5.size); have hC6 := Lib.hid (hC5.out.below hb); have hr2 := (hr2.below hb).mono hb.size; have hr3 := (hr3.below hb).mono hb.size; have hr4 := (hr4.below hb).mono hb.size; have Hto := Lib.hid (told_ok A2 A6 M.length c6 M.length M.length R R w6 _ _ hr2 hr6 HRl.out.symm HRl.out.symm hRm rfl); clear hb))
    go_wp2_with (go_at_call 17; (with_reducible refine Hto.out.mono ?_); rintro e w7 ⟨rfl, hd⟩; have hb7 := hb6.trans (hd.below _); have Hin := Lib.hid (ints_same A3 A7 c3 c7 P w7 _ _ (hr3.dr hd) (hr7.dr hd) hPm); have hr4 := (hr4.dr hd).mono (hd.below w6.heap.size).size; have hC7 := Lib.hid (hC6.out.below (hd.below _)); clear hd)
    go_wp2_with (first
      | (go_at_call 28; (with_reducible refine Hin.out.mono ?_); rintro e w8 ⟨rfl, hd⟩; have hb8 := hb7.trans (hd.below _); have hr4 := (hr4.dr hd).mono (hd.below w7.heap.size).size; have hC8 := Lib.hid (hC7.out.below (hd.below _)); clear hd)
      | (go_at_call 11; (with_reducible refine (Hn.out _).mono ?_); rintro e w8 ⟨rfl, rfl⟩)
      | (go_at_call 29; (with_reducible refine (Hrk.out _ hb8).mono ?_); rintro e w9 ⟨A9, c9, rfl, hr9, hb⟩; have hb9 := hb8.trans (hb.mono hb8.size); have hC9 := Lib.hid (hC8.out.below hb); have hr4 := (hr4.below hb).mono hb.size; have Hto2 := Lib.hid (told_ok A4 A9 c4 c9 K.length K.length K K w9 _ _ hr4 hr9 rfl rfl hKm rfl); clear hb))
    go_wp2_with (go_at_call 17; (with_reducible refine Hto2.out.mono ?_); rintro e w10 ⟨rfl, hd⟩; have hb10 := hb9.trans (hd.below _); have hC10 := Lib.hid (hC9.out.below (hd.below _)); clear hd)
    have Hsa := Lib.hid (lsame_any A1 A c1 c M M w10 _ _ hC10.out.rd (Hme.out _ hb10) hm hm true (by simp))
    go_wp2_with (first
      | (go_at_call 30; (with_reducible refine Hsa.out.mono ?_); rintro e w11 ⟨rfl, hd⟩; have hb11 := hb10.trans (hd.below _); clear hd)
      | (go_at_call 12; (with_reducible refine (Haw.out _ hb11).mono ?_); rintro e w12 ⟨rfl, hb⟩; have hb12 := hb11.trans (hb.mono hb11.size); clear hb))
    go_ret
    exact ⟨rfl, hb12⟩
end
end Go.Proofs.YtecdjanopiibcaaDoor
