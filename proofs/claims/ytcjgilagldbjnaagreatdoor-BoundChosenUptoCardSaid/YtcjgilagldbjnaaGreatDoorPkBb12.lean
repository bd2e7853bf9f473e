/- How many primes there are below 2^32, at least: the binomial. -/
import Derived.Test.YtcjgilagldbjnaaGreatDoorPkBb11
namespace Go.Proofs.YtcjgilagldbjnaaGreatDoor
def cN9 : Nat → Nat → Nat
 | _, 0 => 1
 | 0, _ + 1 => 1
 | i + 1, k + 1 => cN9 i (k + 1) + cN9 (i + 1) k
theorem cN9_zero (i : Nat) : cN9 i 0 = 1 := by rw [cN9]
theorem cN9_left (k : Nat) : cN9 0 k = 1 := by cases k <;> simp [cN9]
theorem cN9_step (i k : Nat) : cN9 (i + 1) (k + 1) = cN9 i (k + 1) + cN9 (i + 1) k := by rw [cN9]
theorem cN9_pq : ∀ s i k, i + k = s → (i + 1) * cN9 (i + 1) k = (i + k + 1) * cN9 i k ∧ (k + 1) * cN9 i (k + 1) = (i + k + 1) * cN9 i k
 | s, 0, 0, _ => by simp [cN9_zero, cN9_left]
 | s, i + 1, 0, h => by
  have h1 := cN9_pq (s - 1) i 0 (by omega)
  refine ⟨by simp [cN9_zero], ?_⟩
  rw [cN9_step, cN9_zero]
  have h2 := h1.2
  rw [cN9_zero] at h2
  omega
 | s, 0, k + 1, h => by
  have h1 := cN9_pq (s - 1) 0 k (by omega)
  refine ⟨?_, by simp [cN9_left]⟩
  rw [cN9_step, cN9_left]
  have h2 := h1.1
  rw [cN9_left] at h2
  omega
 | s, i + 1, k + 1, h => by
  obtain ⟨h1, h2⟩ := cN9_pq (s - 1) i (k + 1) (by omega)
  obtain ⟨h3, h4⟩ := cN9_pq (s - 1) (i + 1) k (by omega)
  have e1 := cN9_step (i + 1) k
  have e2 := cN9_step i (k + 1)
  have e0 := cN9_step i k
  constructor
  ·rw [e1]; grind
  ·rw [e2]; grind
theorem cN9_pos (i k : Nat) : 0 < cN9 i k := by
 induction i generalizing k with
 | zero => rw [cN9_left]; omega
 | succ i ih => cases k with
  | zero => rw [cN9_zero]; omega
  | succ k => rw [cN9_step]; have := ih (k + 1); omega
theorem cN9_dvd (m : Nat) (hm : 0 < m) : ∀ k i, (∀ t, 0 < t → t ≤ i + k + 1 → t ∣ m) → (k + 1) * cN9 i (k + 1) ∣ m
 | 0, i, h => by
  have h1 := (cN9_pq (i + 0) i 0 rfl).2
  rw [cN9_zero] at h1
  rw [h1]
  simpa using h (i + 1) (by omega) (by omega)
 | k + 1, i, h => by
  obtain ⟨a, ha⟩ := cN9_dvd m hm k i (fun t h1 h2 => h t h1 (by omega))
  obtain ⟨b, hb⟩ := cN9_dvd m hm k (i + 1) (fun t h1 h2 => h t h1 (by omega))
  obtain ⟨p, q⟩ := cN9_pq (i + (k + 1)) i (k + 1) rfl
  have u0 := cN9_pos i (k + 1)
  have v0 := cN9_pos (i + 1) (k + 1)
  generalize hu : cN9 i (k + 1) = u at *
  generalize hv : cN9 (i + 1) (k + 1) = v at *
  generalize hz : (k + 1 + 1) * cN9 i (k + 1 + 1) = z at *
  have hX : 0 < (k + 1) * u := Nat.mul_pos (by omega) u0
  have hY : 0 < (k + 1) * v := Nat.mul_pos (by omega) v0
  have key : z * ((k + 1) * v) = z * ((k + 1) * u) + (k + 1) * u * ((k + 1) * v) := by grind
  refine ⟨a - b, ?_⟩
  have hab : b ≤ a := by
   have h1 : (k + 1) * u ≤ (k + 1) * v := by
    refine Nat.le_of_mul_le_mul_left (c := z) ?_ (by
     have : 0 < z := by rw [q]; exact Nat.mul_pos (by omega) u0
     exact this)
    omega
   refine Nat.le_of_not_lt fun hlt => ?_
   have h2 : (k + 1) * u * a < (k + 1) * u * b := Nat.mul_lt_mul_of_pos_left hlt hX
   have h3 : (k + 1) * u * b ≤ (k + 1) * v * b := Nat.mul_le_mul_right b h1
   omega
  obtain ⟨d, rfl⟩ : ∃ d, a = b + d := ⟨a - b, by omega⟩
  rw [Nat.add_sub_cancel_left]
  refine Nat.eq_of_mul_eq_mul_right (Nat.mul_pos hX hY) ?_
  generalize (k + 1) * u = X at *
  generalize (k + 1) * v = Y at *
  have e1 : m * (X * Y) = (m * Y) * X := by grind
  grind
theorem cN9_mid : ∀ j, 2 ^ j ≤ cN9 j j
 | 0 => by simp [cN9_zero]
 | j + 1 => by
  have h := cN9_mid j
  have e0 := cN9_step j j
  have e1 : cN9 j j ≤ cN9 j (j + 1) := by
   cases j with
   | zero => simp [cN9_left]
   | succ j => rw [cN9_step j (j + 1)]; omega
  have e2 : cN9 j j ≤ cN9 (j + 1) j := by
   cases j with
   | zero => simp [cN9_zero]
   | succ j => rw [cN9_step (j + 1) j]; omega
  rw [Nat.pow_succ, e0]
  omega
theorem common_big9 (m j : Nat) (hm : 0 < m) (h : ∀ t, 0 < t → t ≤ 2 * j → t ∣ m) : 2 ^ j ≤ m := by
 cases j with
 | zero => rw [Nat.pow_zero]; omega
 | succ j =>
  have h1 := cN9_dvd m hm j (j + 1) (fun t a b => h t a (by omega))
  have h2 := Nat.le_of_dvd hm h1
  have h3 := cN9_mid (j + 1)
  have h4 : cN9 (j + 1) (j + 1) ≤ (j + 1) * cN9 (j + 1) (j + 1) := Nat.le_mul_of_pos_left _ (by omega)
  omega
theorem Pr.some9 : ∀ n, 2 ≤ n → ∃ p, Pr p ∧ p ∣ n
 | n, h => by
  by_cases hp : Pr n
  ·exact ⟨n, hp, Nat.dvd_refl n⟩
  ·have : ∃ e, e ∣ n ∧ e ≠ 1 ∧ e ≠ n := by
    refine Classical.byContradiction fun hc => hp ⟨h, fun e he => ?_⟩
    refine Classical.byContradiction fun h2 => hc ⟨e, he, fun h3 => h2 (.inl h3), fun h3 => h2 (.inr h3)⟩
   obtain ⟨e, he, h1, h2⟩ := this
   have h0 : 0 < e := Nat.pos_of_dvd_of_pos he (by omega)
   have hlt : e < n := by have := Nat.le_of_dvd (by omega) he; omega
   obtain ⟨p, hp, hd⟩ := Pr.some9 e (by omega)
   exact ⟨p, hp, Nat.dvd_trans hd he⟩
termination_by n => n
theorem Pr.coprime9 {p k : Nat} (h : Pr p) (hk : ¬ p ∣ k) : Nat.Coprime p k := by
 rcases h.2 _ (Nat.gcd_dvd_left p k) with h1 | h1
 ·exact h1
 ·exact absurd (h1 ▸ Nat.gcd_dvd_right p k) hk
theorem split_off9 {p : Nat} (hp : 2 ≤ p) : ∀ k, 0 < k → ∃ e l, k = p ^ e * l ∧ ¬ p ∣ l
 | k, hk => by
  by_cases h : p ∣ k
  ·obtain ⟨l, rfl⟩ := h
   have hl : 0 < l := Nat.pos_of_ne_zero fun h0 => by subst h0; simp at hk
   have hlt : l < p * l := by
    have := Nat.mul_le_mul_right l hp
    omega
   obtain ⟨e, l', h1, h2⟩ := split_off9 hp l hl
   exact ⟨e + 1, l', by rw [h1, Nat.pow_succ]; grind, h2⟩
  ·exact ⟨0, k, by simp, h⟩
termination_by k => k
theorem dvd_powers9 (m : Nat) : ∀ k, 0 < k → (∀ p e, Pr p → p ^ e ∣ k → p ^ e ∣ m) → k ∣ m
 | k, hk, h => by
  by_cases h1 : k = 1
  ·subst h1; exact Nat.one_dvd m
  ·obtain ⟨p, hp, hd⟩ := Pr.some9 k (by omega)
   obtain ⟨e, l, h2, h3⟩ := split_off9 hp.1 k hk
   have hl : 0 < l := Nat.pos_of_ne_zero fun h0 => by subst h0; simp at h2; omega
   have he : e ≠ 0 := fun h0 => by
    subst h0
    rw [Nat.pow_zero, Nat.one_mul] at h2
    exact h3 (h2 ▸ hd)
   have hlt : l < k := by
    have h4 : p ^ 1 ≤ p ^ e := Nat.pow_le_pow_right (by have := hp.1; omega) (by omega)
    have h5 := Nat.mul_le_mul_right l (Nat.le_trans (Nat.le_trans hp.1 (by simp : p ≤ p ^ 1)) h4)
    omega
   have ha : p ^ e ∣ m := h p e hp ⟨l, h2⟩
   have hb : l ∣ m := dvd_powers9 m l hl fun q f hq hqf => h q f hq (Nat.dvd_trans hqf ⟨p ^ e, by rw [h2, Nat.mul_comm]⟩)
   rw [h2]
   exact Nat.Coprime.mul_dvd_of_dvd_of_dvd (Nat.Coprime.pow_left e (hp.coprime9 h3)) ha hb
termination_by k => k
def prodL9 : List Nat → Nat
 | [] => 1
 | x :: l => x * prodL9 l
theorem dvd_prodL9 {x : Nat} : ∀ {l : List Nat}, x ∈ l → x ∣ prodL9 l
 | y :: l, h => by
  rcases List.mem_cons.1 h with rfl | h
  ·exact ⟨_, rfl⟩
  ·exact Nat.dvd_trans (dvd_prodL9 h) ⟨y, by rw [prodL9, Nat.mul_comm]⟩
theorem prodL9_le {N : Nat} (hN : 0 < N) : ∀ {l : List Nat}, (∀ x ∈ l, x ≤ N) → prodL9 l ≤ N ^ l.length
 | [], _ => by simp [prodL9]
 | x :: l, h => by
  rw [prodL9, List.length_cons, Nat.pow_succ, Nat.mul_comm]
  exact Nat.mul_le_mul (prodL9_le hN fun y hy => h y (List.mem_cons_of_mem _ hy)) (h x (List.mem_cons_self ..))
theorem prodL9_pos : ∀ {l : List Nat}, (∀ x ∈ l, 0 < x) → 0 < prodL9 l
 | [], _ => by simp [prodL9]
 | x :: l, h => Nat.mul_pos (h x (List.mem_cons_self ..)) (prodL9_pos fun y hy => h y (List.mem_cons_of_mem _ hy))
theorem top_power9 (p N : Nat) (hp : 2 ≤ p) (hN : 0 < N) : ∃ t, (∃ e, t = p ^ e) ∧ t ≤ N ∧ ∀ e, p ^ e ≤ N → p ^ e ∣ t := by
 have : ∀ n : Nat, (N < p ^ n) → ∃ e, p ^ e ≤ N ∧ N < p ^ (e + 1) := by
  intro n
  induction n with
  | zero => intro h; simp at h; omega
  | succ n ih => intro h; by_cases h2 : p ^ n ≤ N
                 ·exact ⟨n, h2, h⟩
                 ·exact ih (by omega)
 obtain ⟨e, h1, h2⟩ := this N (Nat.lt_pow_self (by omega))
 refine ⟨p ^ e, ⟨e, rfl⟩, h1, fun f hf => Nat.pow_dvd_pow p ?_⟩
 refine Nat.le_of_not_lt fun hlt => ?_
 have := Nat.pow_le_pow_right (n := p) (by omega) (show e + 1 ≤ f by omega)
 omega
theorem many_primes9 (l : List Nat) (j N : Nat) (hN : 2 * j ≤ N) (h0 : 0 < N) (hl : ∀ p ∈ l, Pr p) (h : ∀ p, Pr p → p ≤ 2 * j → p ∈ l) : 2 ^ j ≤ N ^ l.length := by
 have hch : ∀ p, ∃ t, 2 ≤ p → (0 < t ∧ t ≤ N ∧ ∀ e, p ^ e ≤ N → p ^ e ∣ t) := fun p => by
  by_cases hp : 2 ≤ p
  ·obtain ⟨t, ⟨e, h1⟩, h2, h3⟩ := top_power9 p N hp h0
   exact ⟨t, fun _ => ⟨by rw [h1]; exact Nat.pow_pos (by omega), h2, h3⟩⟩
  ·exact ⟨0, fun h => absurd h hp⟩
 let f : Nat → Nat := fun p => (hch p).choose
 have hf : ∀ p, 2 ≤ p → (0 < f p ∧ f p ≤ N ∧ ∀ e, p ^ e ≤ N → p ^ e ∣ f p) := fun p => (hch p).choose_spec
 have hm : 0 < prodL9 (l.map f) := prodL9_pos fun x hx => by
  obtain ⟨p, hp, rfl⟩ := List.mem_map.1 hx
  exact (hf p (hl p hp).1).1
 have h1 : prodL9 (l.map f) ≤ N ^ (l.map f).length := prodL9_le h0 fun x hx => by
  obtain ⟨p, hp, rfl⟩ := List.mem_map.1 hx
  exact (hf p (hl p hp).1).2.1
 rw [List.length_map] at h1
 refine Nat.le_trans (common_big9 _ j hm fun t ht htj => ?_) h1
 refine dvd_powers9 _ t ht fun p e hp hd => ?_
 by_cases he : e = 0
 ·subst he; simp
 ·have h5 : p ^ e ≤ t := Nat.le_of_dvd ht hd
  have h6 : p ^ 1 ≤ p ^ e := Nat.pow_le_pow_right (by have := hp.1; omega) (by omega)
  rw [Nat.pow_one] at h6
  exact Nat.dvd_trans ((hf p hp.1).2.2 e (by omega)) (dvd_prodL9 (List.mem_map.2 ⟨p, h p hp (by omega), rfl⟩))
theorem prodL9_dvd (d : Nat) : ∀ (l : List Nat), l.Pairwise (· ≠ ·) → (∀ p ∈ l, Pr p ∧ p ∣ d) → prodL9 l ∣ d
 | [], _, _ => Nat.one_dvd d
 | p :: l, hn, h => by
  obtain ⟨h1, h2⟩ := List.pairwise_cons.1 hn
  have hp := h p (List.mem_cons_self ..)
  rw [prodL9]
  refine Nat.Coprime.mul_dvd_of_dvd_of_dvd (hp.1.coprime9 fun hd => ?_) hp.2 (prodL9_dvd d l h2 fun q hq => h q (List.mem_cons_of_mem _ hq))
  have hall : ∀ (m : List Nat), (∀ q ∈ m, Pr q ∧ p ≠ q) → ¬ p ∣ prodL9 m := by
   intro m
   induction m with
   | nil => intro _ h3; have := Nat.le_of_dvd (by simp [prodL9]) h3; simp [prodL9] at this; have := hp.1.1; omega
   | cons q m ih =>
    intro h3 h4
    rw [prodL9] at h4
    have hq := h3 q (List.mem_cons_self ..)
    have hc : Nat.Coprime p q := hp.1.coprime9 fun h5 => by
     rcases hq.1.2 p h5 with h6 | h6
     ·have := hp.1.1; omega
     ·exact hq.2 h6
    exact ih (fun x hx => h3 x (List.mem_cons_of_mem _ hx)) (hc.dvd_of_dvd_mul_left h4)
  exact hall l (fun q hq => ⟨(h q (List.mem_cons_of_mem _ hq)).1, h1 q hq⟩) hd
theorem two_le_prodL9 : ∀ (l : List Nat), (∀ p ∈ l, 2 ≤ p) → 2 ^ l.length ≤ prodL9 l
 | [], _ => by simp [prodL9]
 | p :: l, h => by
  rw [prodL9, List.length_cons, Nat.pow_succ, Nat.mul_comm]
  exact Nat.mul_le_mul (h p (List.mem_cons_self ..)) (two_le_prodL9 l fun q hq => h q (List.mem_cons_of_mem _ hq))
theorem primes_left9 (d : Nat) (hd : 0 < d) (out all : List Nat) (j M : Nat) (h : d < 2 ^ M) (hall : ∀ p ∈ all, Pr p) (hin : ∀ p, Pr p → p ≤ 2 * j → p ∈ all) (hn : all.Pairwise (· ≠ ·))
  (hout : ∀ p ∈ all, p ∈ out ∨ p ∣ d) (hj : 2 * j ≤ 2 ^ 32) : j ≤ 32 * (out.length + M) := by
 have h1 := many_primes9 all j (2 ^ 32) hj (by decide) hall hin
 rw [← Nat.pow_mul] at h1
 have h2 := (Nat.pow_le_pow_iff_right (by decide)).1 h1
 have h3 : all.length ≤ out.length + (all.filter (· ∣ d)).length := by
  have h4 : all.length = (all.filter (fun p => decide (p ∣ d))).length + (all.filter (fun p => !decide (p ∣ d))).length := by
   clear h1 h2 hall hin hn hout
   induction all with
   | nil => rfl
   | cons x l ih => by_cases hx : x ∣ d <;> simp [hx, ih] <;> omega
  have h5 : (all.filter (fun p => !decide (p ∣ d))).length ≤ out.length := by
   have hp : (all.filter (fun p => !decide (p ∣ d))).Pairwise (· ≠ ·) := hn.filter _
   refine List.Nodup.length_le_of_subset hp fun p hp => ?_
   obtain ⟨h6, h7⟩ := List.mem_filter.1 hp
   rcases hout p h6 with h8 | h8
   ·exact h8
   ·simp [h8] at h7
  omega
 have h6 : (all.filter (· ∣ d)).length ≤ M := by
  have h7 := prodL9_dvd d (all.filter (· ∣ d)) (hn.filter _) fun p hp => by
   obtain ⟨a, b⟩ := List.mem_filter.1 hp
   exact ⟨hall p a, by simpa using b⟩
  have h8 := Nat.le_of_dvd hd h7
  have h9 := two_le_prodL9 (all.filter (· ∣ d)) fun p hp => (hall p (List.mem_filter.1 hp).1).1
  exact Nat.le_of_lt ((Nat.pow_lt_pow_iff_right (by decide)).1 (Nat.lt_of_le_of_lt (Nat.le_trans h9 h8) h))
 omega
end Go.Proofs.YtcjgilagldbjnaaGreatDoor
