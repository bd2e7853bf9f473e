/- What the reduction keeps: the transform and its inverse, what they make of the matrix, the noughts. Conditions: p a prime. Plain numbers: the polynomial of the reduced matrix, taken again. No conditions beyond the noughts and the numbers below p. The trace of a similar matrix, modulo p. Conditions: R and S as the reduction keeps them. Similar matrices, and the transpose, have the same polynomial modulo p. Conditions: R and S as the reduction keeps them. -/
import Derived.Test.YtbafiahmcfkboaaDoorPkHm32
import Derived.Test.YtbafiahmcfkboaaDoorPkHm31
import Derived.Test.YtbafiahmcfkboaaDoorPkHm30
namespace Go.Proofs.YtbafiahmcfkboaaDoor
section
open Go.RowKit

section
variable {p : Nat} [NeZero p]
def fz (p : Nat) [NeZero p] (x : Nat) : Fin p := Fin.ofNat p x
theorem fz_eq {x y : Nat} : fz p x = fz p y ↔ x % p = y % p := by
  unfold fz
  constructor
  · intro h
    have := congrArg Fin.val h
    simpa [Fin.ofNat] using this
  · intro h
    apply Fin.ext
    simpa [Fin.ofNat] using h
theorem fz_mod (x : Nat) : fz p (x % p) = fz p x := fz_eq.2 (Nat.mod_mod _ _)
theorem fz_add (x y : Nat) : fz p (x + y) = fz p x + fz p y := Fin.ext (by simp [fz, Fin.val_add])
theorem fz_mul (x y : Nat) : fz p (x * y) = fz p x * fz p y := Fin.ext (by simp [fz, Fin.val_mul])
theorem fz_zero : fz p 0 = 0 := rfl
theorem fz_inj {x y : Nat} (hx : x < p) (hy : y < p) (h : fz p x = fz p y) : x = y := by
  have := fz_eq.1 h
  rwa [Nat.mod_eq_of_lt hx, Nat.mod_eq_of_lt hy] at this
theorem fz_self : fz p p = 0 := fz_eq.2 (by simp)
theorem fz_ng {c : Nat} (hc : c < p) : fz p (ngN p c) = - fz p c := by
  unfold ngN
  split
  · rename_i h; subst h; rw [fz_zero]; grind
  · have h : fz p (p - c) + fz p c = 0 := by rw [← fz_add, Nat.sub_add_cancel (by omega), fz_self]
    grind
theorem fz_pl (x y c : Nat) : fz p (plN p x y c) = fz p x + fz p y * fz p c := by
  unfold plN
  rw [fz_mod, fz_add, fz_mul]
/-- Two terms exchanged. -/
theorem sm_tr (f : Nat → Fin p) {n i k : Nat} (hi : i < n) (hk : k < n) : sm (fun j => f (tr i k j)) n = sm f n := by
  by_cases hik : i = k
  · subst hik
    refine sm_congr _ fun j _ => ?_
    have : tr i i j = j := by unfold tr; split <;> (try split) <;> omega
    rw [this]
  · have e : ∀ j, j < n → f (tr i k j) = f j + ((if j = k then f i - f k else 0) + (if j = i then f k - f i else 0)) := fun j _ => by
      unfold tr
      by_cases h1 : j = k
      · subst h1
        rw [if_pos rfl, if_pos rfl, if_neg (fun e => hik e.symm)]; grind
      · rw [if_neg h1, if_neg h1]
        by_cases h2 : j = i
        · subst h2
          rw [if_pos rfl, if_pos rfl]; grind
        · rw [if_neg h2, if_neg h2]; grind
    rw [sm_congr _ e, sm_add, sm_add, sm_one hk (fun j _ hne => if_neg hne), sm_one hi (fun j _ hne => if_neg hne), if_pos rfl, if_pos rfl]
    grind

/-- The transform and its inverse, and what they make of M. -/
structure In (p : Nat) [NeZero p] (n : Nat) (M : Mf) (x : St) : Prop where
  one : ∀ a b, a < n → b < n → sm (fun j => fz p (x.s a j) * fz p (x.r j b)) n = if a = b then 1 else 0
  sim : ∀ a b, a < n → b < n → sm (fun l => sm (fun j => fz p (x.r a j) * fz p (M j l)) n * fz p (x.s l b)) n = fz p (x.h a b)
theorem In.start (n : Nat) (M : Mf) : In p n M ⟨M, idN, idN⟩ := by
  have hid : ∀ a b : Nat, fz p (idN a b) = if a = b then 1 else 0 := fun a b => by unfold idN; split <;> rfl
  refine ⟨fun a b ha hb => ?_, fun a b ha hb => ?_⟩
  · rw [sm_one (k := a) ha fun j _ hne => by rw [hid a j, if_neg (fun e => hne e.symm)]; grind]
    rw [hid, hid, if_pos rfl]; grind
  · have h1 : ∀ l, l < n → sm (fun j => fz p (idN a j) * fz p (M j l)) n * fz p (idN l b) = fz p (M a l) * (if l = b then 1 else 0) := fun l _ => by
      rw [sm_one (k := a) ha fun j _ hne => by rw [hid a j, if_neg (fun e => hne e.symm)]; grind]
      rw [hid, hid, if_pos rfl]; grind
    show sm (fun l => sm (fun j => fz p (idN a j) * fz p (M j l)) n * fz p (idN l b)) n = fz p (M a b)
    rw [sm_congr _ h1, sm_one (k := b) hb fun j _ hne => by rw [if_neg hne]; grind]
    rw [if_pos rfl]; grind
theorem In.ex {n i k : Nat} {M : Mf} {x : St} (h : In p n M x) (hi : i < n) (hk : k < n) : In p n M (exS i k x) := by
  refine ⟨fun a b ha hb => ?_, fun a b ha hb => ?_⟩
  · show sm (fun j => fz p (x.s a (tr i k j)) * fz p (x.r (tr i k j) b)) n = _
    rw [sm_tr (fun j => fz p (x.s a j) * fz p (x.r j b)) hi hk]
    exact h.one a b ha hb
  · exact h.sim _ _ (tr_lt hi hk ha) (tr_lt hi hk hb)
theorem In.sh {n i k c : Nat} {M : Mf} {x : St} (h : In p n M x) (hi : i < n) (hk : k < n) (hik : i ≠ k) (hc : c < p) : In p n M (shS p i k c x) := by
  have eS : ∀ a j, fz p (acN p k i c x.s a j) = fz p (x.s a j) + (if j = k then fz p (x.s a i) * fz p c else 0) := fun a j => by
    unfold acN
    split
    · rename_i e; rw [fz_pl, e]
    · grind
  have eR : ∀ a j, fz p (arN p i k (ngN p c) x.r a j) = fz p (x.r a j) + (if a = i then fz p (x.r k j) * - fz p c else 0) := fun a j => by
    unfold arN
    split
    · rename_i e; rw [fz_pl, fz_ng hc, e]
    · grind
  have eH : ∀ a b, fz p ((shS p i k c x).h a b) = (fz p (x.h a b) + (if a = i then fz p (x.h k b) * - fz p c else 0)) + (if b = k then (fz p (x.h a i) + (if a = i then fz p (x.h k i) * - fz p c else 0)) * fz p c else 0) := fun a b => by
    have e1 : ∀ a b, fz p (arN p i k (ngN p c) x.h a b) = fz p (x.h a b) + (if a = i then fz p (x.h k b) * - fz p c else 0) := fun a b => by
      unfold arN
      split
      · rename_i e; rw [fz_pl, fz_ng hc, e]
      · grind
    show fz p (acN p k i c (arN p i k (ngN p c) x.h) a b) = _
    unfold acN
    split
    · rename_i e; rw [fz_pl, e1, e1, e]
    · rw [e1]; grind
  refine ⟨fun a b ha hb => ?_, fun a b ha hb => ?_⟩
  · show sm (fun j => fz p (acN p k i c x.s a j) * fz p (arN p i k (ngN p c) x.r j b)) n = _
    have e : ∀ j, j < n → fz p (acN p k i c x.s a j) * fz p (arN p i k (ngN p c) x.r j b) = fz p (x.s a j) * fz p (x.r j b) + ((if j = k then fz p (x.s a i) * fz p c * fz p (x.r k b) else 0) + (if j = i then fz p (x.s a i) * (fz p (x.r k b) * - fz p c) else 0)) := fun j _ => by
      rw [eS, eR]
      by_cases h1 : j = k
      · subst h1
        rw [if_pos rfl, if_neg (Ne.symm hik), if_pos rfl, if_neg (Ne.symm hik)]; grind
      · rw [if_neg h1, if_neg h1]
        by_cases h2 : j = i
        · subst h2; rw [if_pos rfl, if_pos rfl]; grind
        · rw [if_neg h2, if_neg h2]; grind
    rw [sm_congr _ e, sm_add, sm_add, sm_one hk (fun j _ hne => if_neg hne), sm_one hi (fun j _ hne => if_neg hne), if_pos rfl, if_pos rfl, h.one a b ha hb]
    grind
  · show sm (fun l => sm (fun j => fz p (arN p i k (ngN p c) x.r a j) * fz p (M j l)) n * fz p (acN p k i c x.s l b)) n = _
    rw [eH]
    have e1 : ∀ l, l < n → sm (fun j => fz p (arN p i k (ngN p c) x.r a j) * fz p (M j l)) n = sm (fun j => fz p (x.r a j) * fz p (M j l)) n + (if a = i then - fz p c else 0) * sm (fun j => fz p (x.r k j) * fz p (M j l)) n := fun l _ => by
      rw [← sm_mul, ← sm_add]
      refine sm_congr _ fun j _ => ?_
      rw [eR]
      split <;> grind
    have e2 : ∀ l, l < n → sm (fun j => fz p (arN p i k (ngN p c) x.r a j) * fz p (M j l)) n * fz p (acN p k i c x.s l b) =
        (sm (fun j => fz p (x.r a j) * fz p (M j l)) n * fz p (x.s l b) + (if a = i then - fz p c else 0) * (sm (fun j => fz p (x.r k j) * fz p (M j l)) n * fz p (x.s l b))) +
        (if b = k then fz p c else 0) * (sm (fun j => fz p (x.r a j) * fz p (M j l)) n * fz p (x.s l i) + (if a = i then - fz p c else 0) * (sm (fun j => fz p (x.r k j) * fz p (M j l)) n * fz p (x.s l i))) := fun l hl => by
      rw [e1 l hl, eS]
      generalize sm (fun j => fz p (x.r a j) * fz p (M j l)) n = P
      generalize sm (fun j => fz p (x.r k j) * fz p (M j l)) n = Q
      by_cases h1 : a = i
      · rw [if_pos h1]
        by_cases h2 : b = k
        · rw [if_pos h2, if_pos h2]; grind
        · rw [if_neg h2, if_neg h2]; grind
      · rw [if_neg h1]
        by_cases h2 : b = k
        · rw [if_pos h2, if_pos h2]; grind
        · rw [if_neg h2, if_neg h2]; grind
    rw [sm_congr _ e2, sm_add, sm_add, sm_mul, sm_mul, sm_add, sm_mul, h.sim a b ha hb, h.sim k b hk hb, h.sim a i ha hi, h.sim k i hk hi]
    by_cases h1 : a = i
    · rw [if_pos h1, if_pos h1, if_pos h1]
      by_cases h2 : b = k
      · rw [if_pos h2, if_pos h2]; grind
      · rw [if_neg h2, if_neg h2]; grind
    · rw [if_neg h1, if_neg h1, if_neg h1]
      by_cases h2 : b = k
      · rw [if_pos h2, if_pos h2]; grind
      · rw [if_neg h2, if_neg h2]; grind

/-- A matrix on its way: what is kept of it. -/
structure Kp (p : Nat) [NeZero p] (n : Nat) (M : Mf) (x : St) : Prop where
  inn : In p n M x
  bh : Lt p n n x.h
  bs : Lt p n n x.s
  br : Lt p n n x.r
/-- Noughts below, in the first m columns. -/
def Hz (n : Nat) (H : Mf) (m : Nat) : Prop := ∀ i k, k < m → k + 1 < i → i < n → H i k = 0
theorem Kp.ex {n i k : Nat} {M : Mf} {x : St} (h : Kp p n M x) (hi : i < n) (hk : k < n) : Kp p n M (exS i k x) := ⟨h.inn.ex hi hk, xH h.bh hi hk, h.bs.trC hi hk, h.br.trR hi hk⟩
theorem Kp.sh {n i k c : Nat} {M : Mf} {x : St} (h : Kp p n M x) (hp : 0 < p) (hi : i < n) (hk : k < n) (hik : i ≠ k) (hc : c < p) : Kp p n M (shS p i k c x) := ⟨h.inn.sh hi hk hik hc, (h.bh.ar hp).ac hp, h.bs.ac hp, h.br.ar hp⟩
theorem pl_zero (p : Nat) (y c : Nat) (hy : y = 0) : plN p 0 y c = 0 := by subst hy; simp [plN]
omit [NeZero p] in
/-- A shear keeps the noughts ahead. -/
theorem Hz.sh {n i k c : Nat} {x : St} (h : Hz n x.h k) (_ : k + 1 < i) (hk : k + 1 < n) (hn : i < n) : Hz n (shS p i (k + 1) c x).h k := fun a b hb ha han => by
  show acN p (k + 1) i c (arN p i (k + 1) (ngN p c) x.h) a b = 0
  unfold acN
  rw [if_neg (by omega)]
  unfold arN
  split
  · rename_i e
    rw [h i b hb (by omega) hn]
    exact pl_zero p _ _ (h (k + 1) b hb (by omega) hk)
  · exact h a b hb ha han
theorem colS_ok {n k u z : Nat} {M : Mf} (hpr : Pr p) (hu : (z * u) % p = 1) (hk : k + 1 < n) : ∀ (m i : Nat) (x : St), i + m = n → k + 1 < i → Kp p n M x → Hz n x.h k → x.h (k + 1) k = z → (∀ t, k + 1 < t → t < i → x.h t k = 0) → Kp p n M (colS p k u m i x) ∧ Hz n (colS p k u m i x).h (k + 1)
  | 0, i, x, hm, hi, hK, hz, hp, hd => ⟨hK, fun a b hb ha han => by
    by_cases e : b = k
    · subst e; exact hd a ha (by omega)
    · exact hz a b (by omega) ha han⟩
  | m + 1, i, x, hm, hi, hK, hz, hp, hd => by
    have hin : i < n := by omega
    rw [colS]
    by_cases h0 : x.h i k = 0
    · rw [if_pos h0]
      refine colS_ok hpr hu hk m (i + 1) x (by omega) (by omega) hK hz hp fun t ht1 ht2 => ?_
      by_cases e : t = i
      · rw [e]; exact h0
      · exact hd t ht1 (by omega)
    · rw [if_neg h0]
      have hc := plN_lt hpr.pos 0 (x.h i k) u
      obtain ⟨c, hce⟩ : ∃ c, c = plN p 0 (x.h i k) u := ⟨_, rfl⟩
      rw [← hce] at hc ⊢
      have hcol : ∀ t, (shS p i (k + 1) c x).h t k = arN p i (k + 1) (ngN p c) x.h t k := fun t => by
        show acN p (k + 1) i c (arN p i (k + 1) (ngN p c) x.h) t k = _
        unfold acN
        rw [if_neg (by omega)]
      refine colS_ok hpr hu hk m (i + 1) _ (by omega) (by omega) (hK.sh hpr.pos hin hk (by omega) hc) (hz.sh hi hk hin) ?_ fun t ht1 ht2 => ?_
      · rw [hcol]
        unfold arN
        rw [if_neg (by omega)]; exact hp
      · rw [hcol]
        unfold arN
        by_cases e : t = i
        · rw [if_pos e, hp]
          refine fz_inj (p := p) (plN_lt hpr.pos _ _ _) hpr.pos ?_
          rw [fz_pl, fz_ng hc, hce, fz_pl, fz_zero]
          have h1 : fz p z * fz p u = 1 := by rw [← fz_mul]; exact fz_eq.2 (by rw [hu, Nat.mod_eq_of_lt hpr.two])
          have h2 : fz p z * -(0 + fz p (x.h i k) * fz p u) = - fz p (x.h i k) * (fz p z * fz p u) := by grind
          rw [h2, h1]; grind
        · rw [if_neg e]; exact hd t ht1 (by omega)
theorem pvS_all {E : Mf} {k : Nat} : ∀ {m j : Nat}, pvS E k m j = j + m → ∀ t, j ≤ t → t < j + m → E t k = 0
  | 0, j, _, t, h1, h2 => by omega
  | m + 1, j, h, t, h1, h2 => by
    unfold pvS at h
    split at h
    · rename_i h0
      by_cases e : t = j
      · rw [e]; exact h0
      · exact pvS_all (show pvS E k m (j + 1) = j + 1 + m by omega) t (by omega) (by omega)
    · omega
theorem stS_ok {n k : Nat} {M : Mf} {x : St} (hpr : Pr p) (hk : k + 1 < n) (hK : Kp p n M x) (hz : Hz n x.h k) : Kp p n M (stS p n k x) ∧ Hz n (stS p n k x).h (k + 1) := by
  unfold stS
  obtain ⟨h1, h2, h3⟩ := pvS_ge x.h k (n - (k + 1)) (k + 1)
  split
  · rename_i e
    refine ⟨hK, fun a b hb ha han => ?_⟩
    by_cases e2 : b = k
    · subst e2
      exact pvS_all (show pvS x.h b (n - (b + 1)) (b + 1) = b + 1 + (n - (b + 1)) by omega) a (by omega) (by omega)
    · exact hz a b (by omega) ha han
  · rename_i hne
    have h4 := h3 (by omega)
    obtain ⟨q, hq⟩ : ∃ q, q = pvS x.h k (n - (k + 1)) (k + 1) := ⟨_, rfl⟩
    rw [← hq] at h1 h2 h4 hne ⊢
    have hqn : q < n := by omega
    have hzq : (exS q (k + 1) x).h (k + 1) k = x.h q k := by
      show x.h (tr q (k + 1) (k + 1)) (tr q (k + 1) k) = _
      unfold tr
      rw [if_pos rfl, if_neg (by omega), if_neg (by omega)]
    rw [hzq]
    have hlt := hK.bh q k hqn (by omega)
    have hinv := hpr.inv_right (a := x.h q k) (fun hd => h4 (Nat.eq_zero_of_dvd_of_lt hd hlt))
    refine colS_ok (z := x.h q k) hpr hinv hk (n - (k + 2)) (k + 2) _ (by omega) (by omega) (hK.ex hqn hk) (fun a b hb ha han => ?_) hzq fun t h5 h6 => by omega
    show x.h (tr q (k + 1) a) (tr q (k + 1) b) = 0
    have e1 : tr q (k + 1) b = b := by unfold tr; rw [if_neg (by omega), if_neg (by omega)]
    rw [e1]
    refine hz _ b hb ?_ (tr_lt hqn hk han)
    unfold tr; split <;> (try split) <;> omega
theorem rdS_ok {n : Nat} {M : Mf} (hpr : Pr p) : ∀ (m k : Nat) (x : St), k + m + 1 = n → Kp p n M x → Hz n x.h k → Kp p n M (rdS p n m k x) ∧ Hz n (rdS p n m k x).h (k + m)
  | 0, _, _, _, hK, hz => ⟨hK, hz⟩
  | m + 1, k, x, hm, hK, hz => by
    obtain ⟨h1, h2⟩ := stS_ok hpr (by omega) hK hz
    have := rdS_ok hpr m (k + 1) (stS p n k x) (by omega) h1 h2
    rw [rdS, show k + (m + 1) = k + 1 + m by omega]
    exact this
end
end
section
open Go.RowKit

theorem en_mtab {n : Nat} {E : Mf} {i k : Nat} (hi : i < n) (hk : k < n) : en (mtab n n E) i k = E i k := by
  have h1 : i < (mtab n n E).length := by rw [mtab_length]; exact hi
  have h2 : k < (mtab n n E)[i].length := by rw [mtab_at h1]; simpa using hk
  rw [en_at h1 h2]
  simp [mtab]
theorem char_again {p n : Nat} {x : St} (hl : Lt p n n x.h) (hz : ∀ i k, k + 1 < i → i < n → x.h i k = 0) : chT p (rdS p n (n - 1) 0 ⟨inN p (mtab n n x.h), zrN, zrN⟩).h n = chT p x.h n := by
  have e : ∀ i k, i < n → k < n → inN p (mtab n n x.h) i k = x.h i k := fun i k hi hk => by
    unfold inN
    rw [en_mtab hi hk]
    exact Nat.mod_eq_of_lt (hl i k hi hk)
  rw [rdS_self p n ⟨inN p (mtab n n x.h), zrN, zrN⟩ (fun i k h1 h2 => by
    show inN p (mtab n n x.h) i k = 0
    rw [e i k h2 (by omega)]
    exact hz i k h1 h2) (n - 1) 0 (by omega)]
  exact chT_congr n e
end
section
open Go.RowKit

section
variable {p : Nat} [NeZero p]
theorem In.trace {n : Nat} {M : Mf} {x : St} (h : In p n M x) : sm (fun i => fz p (x.h i i)) n = sm (fun i => fz p (M i i)) n := by
  have e1 : sm (fun i => fz p (x.h i i)) n = sm (fun i => sm (fun l => sm (fun j => fz p (x.r i j) * fz p (M j l) * fz p (x.s l i)) n) n) n := by
    refine sm_congr _ fun i hi => ?_
    rw [← h.sim i i hi hi]
    refine sm_congr _ fun l _ => ?_
    rw [sm_mulr]
  rw [e1, sm_comm]
  refine sm_congr _ fun l hl => ?_
  rw [sm_comm]
  have e2 : ∀ j, j < n → sm (fun i => fz p (x.r i j) * fz p (M j l) * fz p (x.s l i)) n = (if l = j then 1 else 0) * fz p (M j l) := fun j hj => by
    rw [← h.one l j hl hj, ← sm_mulr]
    refine sm_congr _ fun i _ => ?_
    grind
  rw [sm_one (k := l) hl fun j hj hne => by rw [e2 j hj, if_neg (fun e => hne e.symm)]; grind]
  rw [e2 l hl, if_pos rfl]
  grind
theorem fz_tr (H : Mf) : ∀ n, fz p (trN H n) = sm (fun i => fz p (H i i)) n
  | 0 => rfl
  | n + 1 => by
    show fz p (trN H n + H n n) = _
    rw [fz_add, fz_tr H n]
    rfl
/-- The coefficient next to the top of the reduced matrix's polynomial is minus the trace of the matrix. -/
theorem In.next {n : Nat} {M : Mf} {x : St} (h : In p (n + 1) M x) (hp : 0 < p) : p ∣ chT p x.h (n + 1) (n + 1) n + trN M (n + 1) := by
  have h1 := chT_trace hp x.h n
  have h2 : trN x.h (n + 1) % p = trN M (n + 1) % p := fz_eq.1 (by rw [fz_tr, fz_tr]; exact h.trace)
  apply Nat.dvd_of_mod_eq_zero
  rw [Nat.add_mod, ← h2, ← Nat.add_mod]
  exact Nat.mod_eq_zero_of_dvd h1
end
end
section
open Go.RowKit

theorem mi_assoc (n : Nat) (A B C : Nat → Nat → Int) : mi n (mi n A B) C = mi n A (mi n B C) := by
  funext i j
  show si (fun t => si (fun s => A i s * B s t) n * C t j) n = si (fun s => A i s * si (fun t => B s t * C t j) n) n
  rw [si_congr (g := fun t => si (fun s => A i s * B s t * C t j) n) n fun t _ => by rw [Int.mul_comm, ← si_mul]; exact si_congr n fun s _ => by grind]
  rw [si_comm]
  refine si_congr n fun s _ => ?_
  rw [← si_mul]
  exact si_congr n fun t _ => by grind
/-- The same modulo p, entry by entry. -/
def Eqn (p : Int) (n : Nat) (A B : Nat → Nat → Int) : Prop := ∀ i j, i < n → j < n → Eqm p (A i j) (B i j)
theorem eqm_si {p : Int} {f g : Nat → Int} (n : Nat) (h : ∀ i, i < n → Eqm p (f i) (g i)) : Eqm p (si f n) (si g n) := by
  induction n with
  | zero => exact Eqm.refl _ _
  | succ n ih => exact (ih fun i hi => h i (by omega)).add (h n (by omega))
theorem Eqn.mi {p : Int} {n : Nat} {A B A2 B2 : Nat → Nat → Int} (h : Eqn p n A A2) (h2 : Eqn p n B B2) : Eqn p n (mi n A B) (mi n A2 B2) := fun i j hi hj => eqm_si n fun t ht => (h i t hi ht).mul (h2 t j ht hj)
theorem Eqn.refl (p : Int) (n : Nat) (A : Nat → Nat → Int) : Eqn p n A A := fun _ _ _ _ => Eqm.refl _ _
theorem Eqn.trans {p : Int} {n : Nat} {A B C : Nat → Nat → Int} (h : Eqn p n A B) (h2 : Eqn p n B C) : Eqn p n A C := fun i j hi hj => (h i j hi hj).trans (h2 i j hi hj)
theorem mi_unit (p : Int) (n : Nat) (B : Nat → Nat → Int) : Eqn p n (mi n (unit id) B) B := fun i j hi _ => by
  refine ⟨0, ?_⟩
  show si (fun t => unit id i t * B t j) n = _
  rw [si_one hi fun t _ hne => by unfold unit; rw [if_neg (by exact hne)]; omega]
  unfold unit; rw [if_pos (show i = id i from rfl)]; omega
theorem mi_unitr (p : Int) (n : Nat) (B : Nat → Nat → Int) : Eqn p n (mi n B (unit id)) B := fun i j _ hj => by
  refine ⟨0, ?_⟩
  show si (fun t => B i t * unit id t j) n = _
  rw [si_one hj fun t _ hne => by unfold unit; rw [if_neg (show ¬ j = id t from fun e => hne e.symm)]; omega]
  unfold unit; rw [if_pos (show j = id j from rfl)]; omega
/-- Similar matrices. -/
theorem sim_pc {p : Int} {n : Nat} {M H S R : Nat → Nat → Int} (h1 : Eqn p n (mi n S R) (unit id)) (h2 : Eqn p n (mi n (mi n R M) S) H) : Pc p (fun t => Di n (xI t H)) (fun t => Di n (xI t M)) := by
  have h3 : Eqn p n (mi n (mi n S (mi n (mi n R M) S)) R) M := by
    rw [mi_assoc n R M S, ← mi_assoc n S R, mi_assoc n (mi n S R), mi_assoc n M S R]
    refine (h1.mi (Eqn.refl p n _)).trans ((mi_unit p n _).trans ?_)
    exact ((Eqn.refl p n M).mi h1).trans (mi_unitr p n M)
  have h4 : Eqn p n (mi n (mi n S H) R) M := by
    refine Eqn.trans (fun i j hi hj => ?_) h3
    obtain ⟨e, he⟩ := ((Eqn.refl p n S).mi h2).mi (Eqn.refl p n R) i j hi hj
    exact ⟨-e, by rw [he]; grind⟩
  -- the determinant of S R
  obtain ⟨c, hc⟩ : ∃ c, Di n (mi n S R) = 1 + p * c := by
    have hz : ∀ i j, i < n → j < n → ∃ e, mi n S R i j = unit id i j + p * e := h1
    have h5 := Pc.det (p := p) n (fun _ i j => if i < n ∧ j < n then mi n S R i j else 0) (fun _ i j => if i < n ∧ j < n then unit id i j else 0) (fun i j => by
      by_cases h : i < n ∧ j < n
      · refine Pc.congr (Pc.num (hz i j h.1 h.2)) (fun _ => ?_) fun _ => ?_
        · rw [if_pos h]
        · rw [if_pos h]
      · refine Pc.congr (Pc.refl p fun _ => 0) (fun _ => ?_) fun _ => ?_
        · rw [if_neg h]
        · rw [if_neg h]) fun i j => Pol.num _
    obtain ⟨E, _, hE⟩ := h5
    refine ⟨E 0, ?_⟩
    have h6 := hE 0
    rw [Di_congr n (fun i j => if i < n ∧ j < n then mi n S R i j else 0) (mi n S R) fun i j hi hj => if_pos ⟨hi, hj⟩, Di_congr n (fun i j => if i < n ∧ j < n then unit id i j else 0) (unit id) fun i j hi hj => if_pos ⟨hi, hj⟩, Di_one] at h6
    exact h6
  rw [Di_mul] at hc
  have h5 : Pc p (fun t => Di n (mi n (mi n S (xI t H)) R)) (fun t => Di n (xI t M)) := by
    have h6 := Pc.det (p := p) n (fun t i j => if i < n ∧ j < n then mi n (mi n S (xI t H)) R i j else 0) (fun t i j => if i < n ∧ j < n then xI t M i j else 0) (fun i j => by
      by_cases h : i < n ∧ j < n
      · obtain ⟨e, he⟩ := h4 i j h.1 h.2
        obtain ⟨d, hd⟩ := h1 i j h.1 h.2
        refine ⟨fun t => t * d + (-1) * e, ((Pol.num d).shift).add ((Pol.num e).smul (-1)), fun t => ?_⟩
        show (if i < n ∧ j < n then mi n (mi n S (xI t H)) R i j else 0) = (if i < n ∧ j < n then xI t M i j else 0) + p * (t * d + -1 * e)
        rw [if_pos h, if_pos h]
        have e1 : mi n (mi n S (xI t H)) R i j = t * mi n S R i j + -1 * mi n (mi n S H) R i j := by
          show si (fun l => si (fun s => S i s * xI t H s l) n * R l j) n = t * si (fun l => S i l * R l j) n + -1 * si (fun l => si (fun s => S i s * H s l) n * R l j) n
          rw [← si_mul, ← si_mul, ← si_add]
          refine si_congr n fun l hl => ?_
          have e2 : si (fun s => S i s * xI t H s l) n = t * S i l + -1 * si (fun s => S i s * H s l) n := by
            rw [← si_mul]
            have e3 : si (fun s => S i s * xI t H s l) n = si (fun s => (if s = l then t * S i l else 0) + -1 * (S i s * H s l)) n := si_congr n fun s _ => by
              unfold xI
              by_cases e4 : s = l
              · subst e4; rw [if_pos rfl, if_pos rfl]; grind
              · rw [if_neg e4, if_neg e4]; grind
            rw [e3, si_add, si_one hl fun s _ hne => if_neg hne, if_pos rfl]
          rw [e2]; grind
        rw [e1, he, hd]
        unfold xI unit
        by_cases e4 : i = j
        · rw [if_pos e4, if_pos (show j = id i from e4.symm)]; grind
        · rw [if_neg e4, if_neg (show ¬ j = id i from fun e => e4 e.symm)]; grind
      · refine Pc.congr (Pc.refl p fun _ => 0) (fun _ => ?_) fun _ => ?_
        · rw [if_neg h]
        · rw [if_neg h]) fun i j => by
      by_cases h : i < n ∧ j < n
      · exact (xI_pol M i j).congr fun t => if_pos h
      · exact (Pol.num 0).congr fun t => if_neg h
    refine h6.congr (fun t => ?_) fun t => ?_
    · exact Di_congr n _ _ fun i j hi hj => (if_pos ⟨hi, hj⟩).symm
    · exact Di_congr n _ _ fun i j hi hj => (if_pos ⟨hi, hj⟩).symm
  refine Pc.trans (Pc.symm ?_) h5
  refine ⟨fun t => c * Di n (xI t H), (Pol.det n (fun t => xI t H) fun i j => xI_pol H i j).smul c, fun t => ?_⟩
  show Di n (mi n (mi n S (xI t H)) R) = Di n (xI t H) + p * (c * Di n (xI t H))
  rw [Di_mul, Di_mul]
  have e : Di n S * Di n (xI t H) * Di n R = (Di n S * Di n R) * Di n (xI t H) := by grind
  rw [e, hc]; grind
/-- The transpose. -/
theorem turn_pc (p : Int) (n : Nat) (M : Nat → Nat → Int) : Pc p (fun t => Di n (xI t fun i j => M j i)) (fun t => Di n (xI t M)) := by
  refine (Pc.refl p fun t => Di n (xI t M)).congr (fun t => ?_) fun _ => rfl
  rw [← Di_turn n (xI t M)]
  refine Di_congr n _ _ fun i j _ _ => ?_
  unfold xI
  by_cases e : i = j
  · rw [if_pos e, if_pos e.symm]
  · rw [if_neg e, if_neg fun h => e h.symm]

/-- A sum of natural numbers. -/
def sn (f : Nat → Nat) : Nat → Nat
  | 0 => 0
  | n + 1 => sn f n + f n
theorem sn_int (f : Nat → Nat) : ∀ n, ((sn f n : Nat) : Int) = si (fun i => (f i : Int)) n
  | 0 => rfl
  | n + 1 => by show ((sn f n + f n : Nat) : Int) = _; rw [Int.natCast_add, sn_int f n]; rfl
section
variable {p : Nat} [NeZero p]
theorem fz_sn (f : Nat → Nat) : ∀ n, fz p (sn f n) = sm (fun i => fz p (f i)) n
  | 0 => rfl
  | n + 1 => by show fz p (sn f n + f n) = _; rw [fz_add, fz_sn f n]; rfl
theorem fz_eqm {x y : Nat} (h : fz p x = fz p y) : Eqm (p : Int) (x : Int) (y : Int) := by
  have h1 := fz_eq.1 h
  have h2 := Nat.div_add_mod x p
  have h3 := Nat.div_add_mod y p
  refine ⟨((x / p : Nat) : Int) - ((y / p : Nat) : Int), ?_⟩
  have h4 : ((p * (x / p) + x % p : Nat) : Int) = (x : Int) := by rw [h2]
  have h5 : ((p * (y / p) + y % p : Nat) : Int) = (y : Int) := by rw [h3]
  rw [Int.natCast_add, Int.natCast_mul] at h4 h5
  rw [h1] at h4
  grind
theorem In.eqn {n : Nat} {M : Mf} {x : St} (h : In p n M x) : Eqn (p : Int) n (mi n (ci x.s) (ci x.r)) (unit id) ∧ Eqn (p : Int) n (mi n (mi n (ci x.r) (ci M)) (ci x.s)) (ci x.h) := by
  refine ⟨fun a b ha hb => ?_, fun a b ha hb => ?_⟩
  · have h1 := h.one a b ha hb
    have h2 : fz p (sn (fun j => x.s a j * x.r j b) n) = fz p (if b = a then 1 else 0) := by
      rw [fz_sn, sm_congr (g := fun j => fz p (x.s a j) * fz p (x.r j b)) n fun j _ => fz_mul _ _, h1]
      by_cases e : a = b
      · rw [if_pos e, if_pos e.symm]; rfl
      · rw [if_neg e, if_neg fun h => e h.symm]; rfl
    have h3 := fz_eqm h2
    rw [sn_int] at h3
    have e1 : si (fun i => ((x.s a i * x.r i b : Nat) : Int)) n = mi n (ci x.s) (ci x.r) a b := si_congr n fun i _ => Int.natCast_mul _ _
    have e2 : (((if b = a then 1 else 0 : Nat)) : Int) = unit id a b := by
      unfold unit
      by_cases e : b = a
      · rw [if_pos e, if_pos (show b = id a from e)]; rfl
      · rw [if_neg e, if_neg (show ¬ b = id a from e)]; rfl
    rwa [e1, e2] at h3
  · have h1 := h.sim a b ha hb
    have h2 : fz p (sn (fun l => sn (fun j => x.r a j * M j l) n * x.s l b) n) = fz p (x.h a b) := by
      rw [fz_sn, ← h1]
      refine sm_congr n fun l _ => ?_
      rw [fz_mul, fz_sn, sm_congr (g := fun j => fz p (x.r a j) * fz p (M j l)) n fun j _ => fz_mul _ _]
    have h3 := fz_eqm h2
    rw [sn_int] at h3
    have e1 : si (fun l => ((sn (fun j => x.r a j * M j l) n * x.s l b : Nat) : Int)) n = mi n (mi n (ci x.r) (ci M)) (ci x.s) a b := si_congr n fun l _ => by
      rw [Int.natCast_mul, sn_int]
      show si (fun i => ((x.r a i * M i l : Nat) : Int)) n * (x.s l b : Int) = si (fun i => (x.r a i : Int) * (M i l : Int)) n * (x.s l b : Int)
      rw [si_congr n fun i _ => Int.natCast_mul _ _]
    rwa [e1] at h3
/-- The polynomial of the reduced matrix is the determinant's. -/
theorem In.pc {n : Nat} {M : Mf} {x : St} (h : In p n M x) (hp : 0 < p) (hz : ∀ i j, j + 1 < i → i < n → x.h i j = 0) : Pc (p : Int) (evl (cf (chT p x.h n n)) (n + 1)) (fun t => Di n (xI t (ci M))) := by
  have e1 : chT p x.h n = chT p (fun i j => if i < n then x.h i j else 0) n := chT_congr n fun i j hi _ => (if_pos hi).symm
  have h1 := chT_pc hp (fun i j => if i < n then x.h i j else 0) (fun i j hij => by
    show (if i < n then x.h i j else 0) = 0
    split
    · rename_i hi; exact hz i j hij hi
    · rfl) n
  rw [← e1] at h1
  have e2 : ∀ t, Di n (xI t (ci x.h)) = Di n (xI t (ci fun i j => if i < n then x.h i j else 0)) := fun t => Di_congr n _ _ fun i j hi _ => by
    show (if i = j then t else 0) - (x.h i j : Int) = (if i = j then t else 0) - ((if i < n then x.h i j else 0 : Nat) : Int)
    rw [if_pos hi]
  obtain ⟨h2, h3⟩ := h.eqn
  exact h1.trans ((sim_pc h2 h3).congr (fun t => (e2 t).symm) fun _ => rfl)
/-- The matrix and its transpose, reduced. -/
theorem char_turn {n : Nat} {M N : Mf} {x y : St} (hp : 1 < p) (hx : In p n M x) (hy : In p n N y) (hzx : ∀ i j, j + 1 < i → i < n → x.h i j = 0) (hzy : ∀ i j, j + 1 < i → i < n → y.h i j = 0) (e : ∀ i j, i < n → j < n → N i j = M j i) (j : Nat) (hj : j ≤ n) : chT p y.h n n j = chT p x.h n n j := by
  have h1 := hx.pc (by omega) hzx
  have h2 := hy.pc (by omega) hzy
  have h3 := turn_pc (p : Int) n (ci M)
  have h4 : Pc (p : Int) (evl (cf (chT p y.h n n)) (n + 1)) (evl (cf (chT p x.h n n)) (n + 1)) := by
    refine (h2.trans ?_).trans h1.symm
    refine h3.congr (fun t => Di_congr n _ _ fun i j hi hj => ?_) fun _ => rfl
    unfold xI ci; rw [e i j hi hj]
  exact Eqm.nat (h4.coef j (by omega)) (chT_lt hp _ _ _ _) (chT_lt hp _ _ _ _)
end
end
end Go.Proofs.YtbafiahmcfkboaaDoor
