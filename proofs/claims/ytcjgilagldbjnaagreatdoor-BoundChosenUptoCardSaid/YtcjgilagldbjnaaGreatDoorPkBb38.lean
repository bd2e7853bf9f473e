/- A number below 2^32 that passes for a prime with the bases 2. -/
import Derived.Test.YtcjgilagldbjnaaGreatDoorPkBb33
import Derived.Test.YtcjgilagldbjnaaGreatDoorPkBb34
import Derived.Test.YtcjgilagldbjnaaGreatDoorPkBb35
import Derived.Test.YtcjgilagldbjnaaGreatDoorPkBb36
import Derived.Test.YtcjgilagldbjnaaGreatDoorPkBb37
namespace Go.Proofs.YtcjgilagldbjnaaGreatDoor
set_option maxRecDepth 100000

theorem Pr.of_prodS {p : Nat} (hp : Pr p) : ∀ {l : List Nat}, p ∣ prodS l → ∃ x ∈ l, p ∣ x
 | [], h => absurd h hp.not_dvd_one
 | y :: l, h => by
  have h : p ∣ y * prodS l := h
  rcases hp.dvd_mul h with h | h
  ·exact ⟨y, List.mem_cons_self, h⟩
  ·obtain ⟨x, hx, hd⟩ := hp.of_prodS h
   exact ⟨x, List.mem_cons_of_mem _ hx, hd⟩
theorem Pr.not_strips {q : Nat} (hq : Pr q) (h : 262144 ≤ q) : ¬ q ∣ stripAll := fun hd => by
 rw [← strips_all] at hd
 obtain ⟨x, hx, hxd⟩ := hq.of_prodS hd
 have h1 := List.all_eq_true.1 strips_less x hx
 rw [Bool.and_eq_true] at h1
 have h2 : 0 < x := by simpa [Nat.blt_eq] using h1.1
 have h3 : x < 262144 := by simpa [Nat.blt_eq] using h1.2
 have := Nat.le_of_dvd h2 hxd
 omega
theorem great_all (k : Nat) (h2 : 2 ≤ k) (he : k % 2 = 0) (hlt : k < 16384) : big stripAll k = true := by
 have key : ∀ lo, range2 (big stripAll) 2048 lo = true → lo % 2 = 0 → lo ≤ k → k < lo + 4096 → big stripAll k = true := fun lo h h1 h3 h4 => by
  have := range2_says _ _ _ h ((k - lo) / 2) (by omega)
  rwa [show lo + 2 * ((k - lo) / 2) = k from by omega] at this
 rcases Nat.lt_or_ge k 4098 with h | h
 ·exact key 2 great_0 (by omega) (by omega) (by omega)
 ·rcases Nat.lt_or_ge k 8194 with h | h
  ·exact key 4098 great_1 (by omega) (by omega) (by omega)
  ·rcases Nat.lt_or_ge k 12290 with h | h
   ·exact key 8194 great_2 (by omega) (by omega) (by omega)
   ·exact key 12290 great_3 (by omega) (by omega) (by omega)
theorem mid_of {c lo : Nat} (h : range2 mid c lo = true) (k : Nat) (h1 : lo % 2 = 1) (h2 : k % 2 = 1) (h3 : lo ≤ k) (h4 : k < lo + 2 * c) : mid k = true := by
 have := range2_says _ _ _ h ((k - lo) / 2) (by omega)
 rwa [show lo + 2 * ((k - lo) / 2) = k from by omega] at this
theorem mid_all (k : Nat) (h2 : 2048 ≤ k) (he : k % 2 = 1) (hlt : k < 262144) : mid k = true := by
 rcases Nat.lt_or_ge k 2297 with h | h
 ·exact mid_of mid_0 k (by omega) (by omega) (by omega) (by omega)
 rcases Nat.lt_or_ge k 2609 with h | h
 ·exact mid_of mid_1 k (by omega) (by omega) (by omega) (by omega)
 rcases Nat.lt_or_ge k 2909 with h | h
 ·exact mid_of mid_2 k (by omega) (by omega) (by omega) (by omega)
 rcases Nat.lt_or_ge k 3373 with h | h
 ·exact mid_of mid_3 k (by omega) (by omega) (by omega) (by omega)
 rcases Nat.lt_or_ge k 4013 with h | h
 ·exact mid_of mid_4 k (by omega) (by omega) (by omega) (by omega)
 rcases Nat.lt_or_ge k 5039 with h | h
 ·exact mid_of mid_5 k (by omega) (by omega) (by omega) (by omega)
 rcases Nat.lt_or_ge k 6581 with h | h
 ·exact mid_of mid_6 k (by omega) (by omega) (by omega) (by omega)
 rcases Nat.lt_or_ge k 9421 with h | h
 ·exact mid_of mid_7 k (by omega) (by omega) (by omega) (by omega)
 rcases Nat.lt_or_ge k 15413 with h | h
 ·exact mid_of mid_8 k (by omega) (by omega) (by omega) (by omega)
 rcases Nat.lt_or_ge k 28309 with h | h
 ·exact mid_of mid_9 k (by omega) (by omega) (by omega) (by omega)
 rcases Nat.lt_or_ge k 49223 with h | h
 ·exact mid_of mid_10 k (by omega) (by omega) (by omega) (by omega)
 rcases Nat.lt_or_ge k 74941 with h | h
 ·exact mid_of mid_11 k (by omega) (by omega) (by omega) (by omega)
 rcases Nat.lt_or_ge k 103171 with h | h
 ·exact mid_of mid_12 k (by omega) (by omega) (by omega) (by omega)
 rcases Nat.lt_or_ge k 132421 with h | h
 ·exact mid_of mid_13 k (by omega) (by omega) (by omega) (by omega)
 rcases Nat.lt_or_ge k 162109 with h | h
 ·exact mid_of mid_14 k (by omega) (by omega) (by omega) (by omega)
 rcases Nat.lt_or_ge k 192347 with h | h
 ·exact mid_of mid_15 k (by omega) (by omega) (by omega) (by omega)
 rcases Nat.lt_or_ge k 223007 with h | h
 ·exact mid_of mid_16 k (by omega) (by omega) (by omega) (by omega)
 rcases Nat.lt_or_ge k 253951 with h | h
 ·exact mid_of mid_17 k (by omega) (by omega) (by omega) (by omega)
 exact mid_of mid_18 k (by omega) (by omega) (by omega) (by omega)
noncomputable def rowOk (a : Nat × Nat) : Bool := ite3 (order3 a.1 fun d => Nat.beq d a.2) (ite3 (Nat.beq (Nat.mod (Nat.pow (nat_lit 2) (Nat.pred a.1)) (Nat.mul a.1 a.1)) (nat_lit 1)) (ite3 (Nat.beq (Nat.mod (Nat.pow (nat_lit 7) (Nat.pred a.1)) (Nat.mul a.1 a.1)) (nat_lit 1)) (ite3 (Nat.beq (Nat.mod (Nat.pow (nat_lit 61) (Nat.pred a.1)) (Nat.mul a.1 a.1)) (nat_lit 1)) false true) true) true) false
theorem tab_ok : tab.all rowOk = true := by decide +kernel
theorem tab_less : (tab.all fun a => Nat.blt a.1 262144) = true := by decide +kernel
def covK (k : Nat) : Bool := k % 2 == 0 || k < 2 || k == 7 || k == 61 || (43 < k && Nat.gcd k 6541380665835015 != 1) || (tab.any fun a => Nat.beq a.1 k) || [3, 5].any fun d => d < k && k < 44 && k % d == 0
theorem tab_covers : ((List.range 2048).all covK) = true := by decide +kernel
theorem prod43 : prodL [3, 5, 7, 11, 13, 17, 19, 23, 29, 31, 37, 41, 43] = 6541380665835015 := by decide +kernel
theorem tab_has {p : Nat} (hp : Pr p) (h2 : p % 2 = 1) (h7 : p ≠ 7) (h61 : p ≠ 61) (hlt : p < 2048) : ∃ l, (p, l) ∈ tab := by
 have h := List.all_eq_true.1 tab_covers p (List.mem_range.2 hlt)
 unfold covK at h
 simp only [Bool.or_eq_true] at h
 rcases h with (((((h | h) | h) | h) | h) | h) | h
 ·have : p % 2 = 0 := by simpa using h
  omega
 ·have : p < 2 := by simpa using h
  have := hp.1; omega
 ·exact absurd (by simpa using h) h7
 ·exact absurd (by simpa using h) h61
 ·rw [Bool.and_eq_true] at h
  have h43 : 43 < p := by simpa using h.1
  have hg : Nat.gcd p 6541380665835015 ≠ 1 := by simpa using h.2
  have hd : p ∣ 6541380665835015 := by
   rcases hp.2 _ (Nat.gcd_dvd_left p 6541380665835015) with e | e
   ·exact absurd e hg
   ·exact e ▸ Nat.gcd_dvd_right p 6541380665835015
  rw [← prod43] at hd
  obtain ⟨x, hx, hxd⟩ := hp.of_prodL hd
  have hx43 : 0 < x ∧ x ≤ 43 := by
   have : ∀ x ∈ [3, 5, 7, 11, 13, 17, 19, 23, 29, 31, 37, 41, 43], 0 < x ∧ x ≤ 43 := by decide
   exact this x hx
  have := Nat.le_of_dvd hx43.1 hxd
  omega
 ·obtain ⟨a, ha, hb⟩ := List.any_eq_true.1 h
  have := Nat.eq_of_beq_eq_true hb
  exact ⟨a.2, by rw [← this]; exact ha⟩
 ·obtain ⟨d, hd, hx⟩ := List.any_eq_true.1 h
  simp only [Bool.and_eq_true] at hx
  have h1 : d < p := by simpa using hx.1.1
  have h3 : p % d = 0 := by simpa using hx.2
  have hd35 : d = 3 ∨ d = 5 := by simpa using hd
  rcases hp.2 d (Nat.dvd_of_mod_eq_zero h3) with e | e <;> omega
theorem tab_told {n : Nat} (hn1 : 1 < n) (h : Psp n) : Told n tab := fun a ha hp hd => by
 have h1 := List.all_eq_true.1 tab_ok a ha
 have h2 := List.all_eq_true.1 tab_less a ha
 have hlt : a.1 < 262144 := by simpa [Nat.blt_eq] using h2
 obtain ⟨h3, h4⟩ := and3 h1
 have hb : B3 a.1 (n - 1) := B3.down h hp.1 hd
 obtain ⟨d, k1, k2, k3⟩ := order3_says hp hlt (B3.fermat hp (by omega) hb) _ h3
 have k1 : d = a.2 := Nat.eq_of_beq_eq_true k1
 subst k1
 refine ⟨k3 _ hb, k2, fun hsq => ?_⟩
 have e1 : Nat.beq (2 ^ (a.1 - 1) % (a.1 * a.1)) 1 = true := by rw [square_says hp hsq (by omega) h.1]; rfl
 have e2 : Nat.beq (7 ^ (a.1 - 1) % (a.1 * a.1)) 1 = true := by rw [square_says hp hsq (by omega) h.2.1]; rfl
 have e3 : Nat.beq (61 ^ (a.1 - 1) % (a.1 * a.1)) 1 = true := by rw [square_says hp hsq (by omega) h.2.2]; rfl
 change ite3 (Nat.beq (2 ^ (a.1 - 1) % (a.1 * a.1)) 1) (ite3 (Nat.beq (7 ^ (a.1 - 1) % (a.1 * a.1)) 1) (ite3 (Nat.beq (61 ^ (a.1 - 1) % (a.1 * a.1)) 1) false true) true) true = true at h4
 rw [e1, e2, e3] at h4
 cases h4
theorem Passes.prime {n : Nat} (h : Passes n) (hn1 : 1 < n) (hodd : n % 2 = 1) (h32 : n < 4294967296) : Pr n := by
 refine Classical.byContradiction fun hnp => ?_
 have hpsp := h.psp hn1
 obtain ⟨q, hq, ⟨m, hm⟩, hmax⟩ := exists_greatest n hn1
 have hm0 : 0 < m := Nat.pos_of_ne_zero fun e => by subst e; omega
 have hm1 : 1 < m := by
  rcases Nat.lt_or_ge 1 m with h1 | h1
  ·exact h1
  ·obtain rfl : m = 1 := by omega
   exact absurd (by rw [hm, Nat.mul_one]; exact hq) hnp
 have hmul : n % 2 = (q % 2) * (m % 2) % 2 := by rw [hm, Nat.mul_mod]
 have hqodd : q % 2 = 1 := by
  rcases Nat.mod_two_eq_zero_or_one q with e | e
  ·rw [e] at hmul; omega
  ·exact e
 have hmodd : m % 2 = 1 := by
  rcases Nat.mod_two_eq_zero_or_one m with e | e
  ·rw [e] at hmul; omega
  ·exact e
 rcases Nat.lt_or_ge q 262144 with h1 | h1
 ·rcases Nat.lt_or_ge q 2048 with h2 | h2
  ·have htold := tab_told hn1 hpsp
   have hcov : Covered tab n := fun p hp hd => by
    have hb : B3 p (n - 1) := B3.down hpsp hp.1 hd
    have hle := hmax p hp hd
    refine tab_has hp ?_ (fun e => ?_) (fun e => ?_) (by omega)
    ·rcases Nat.mod_two_eq_zero_or_one p with e | e
     ·exfalso
      have := Nat.dvd_trans (Nat.dvd_of_mod_eq_zero e) hd
      have := Nat.mod_eq_zero_of_dvd this
      omega
     ·exact e
    ·exact not_dvd_of_pow hp.1 (by omega) hb.2.1 ⟨1, by omega⟩
    ·exact not_dvd_of_pow hp.1 (by omega) hb.2.2 ⟨1, by omega⟩
   have c0 := heads_says hn1 h32 h hnp 23 _ heads_0 (fun a ha => htold a (List.mem_of_mem_drop ha)) (by simpa using hcov)
   have c1 := heads_says hn1 h32 h hnp 25 _ heads_1 (fun a ha => htold a (List.mem_of_mem_drop ha)) (by simpa [List.drop_drop] using c0)
   have c2 := heads_says hn1 h32 h hnp 27 _ heads_2 (fun a ha => htold a (List.mem_of_mem_drop ha)) (by simpa [List.drop_drop] using c1)
   have c3 := heads_says hn1 h32 h hnp 27 _ heads_3 (fun a ha => htold a (List.mem_of_mem_drop ha)) (by simpa [List.drop_drop] using c2)
   have c4 := heads_says hn1 h32 h hnp 29 _ heads_4 (fun a ha => htold a (List.mem_of_mem_drop ha)) (by simpa [List.drop_drop] using c3)
   have c5 := heads_says hn1 h32 h hnp 28 _ heads_5 (fun a ha => htold a (List.mem_of_mem_drop ha)) (by simpa [List.drop_drop] using c4)
   have c6 := heads_says hn1 h32 h hnp 28 _ heads_6 (fun a ha => htold a (List.mem_of_mem_drop ha)) (by simpa [List.drop_drop] using c5)
   have c7 := heads_says hn1 h32 h hnp 23 _ heads_7 (fun a ha => htold a (List.mem_of_mem_drop ha)) (by simpa [List.drop_drop] using c6)
   have c8 := heads_says hn1 h32 h hnp 19 _ heads_8 (fun a ha => htold a (List.mem_of_mem_drop ha)) (by simpa [List.drop_drop] using c7)
   have c9 := heads_says hn1 h32 h hnp 17 _ heads_9 (fun a ha => htold a (List.mem_of_mem_drop ha)) (by simpa [List.drop_drop] using c8)
   have c10 := heads_says hn1 h32 h hnp 13 _ heads_10 (fun a ha => htold a (List.mem_of_mem_drop ha)) (by simpa [List.drop_drop] using c9)
   have c11 := heads_says hn1 h32 h hnp 11 _ heads_11 (fun a ha => htold a (List.mem_of_mem_drop ha)) (by simpa [List.drop_drop] using c10)
   have c12 := heads_says hn1 h32 h hnp 13 _ heads_12 (fun a ha => htold a (List.mem_of_mem_drop ha)) (by simpa [List.drop_drop] using c11)
   have c13 := heads_says hn1 h32 h hnp 23 _ heads_13 (fun a ha => htold a (List.mem_of_mem_drop ha)) (by simpa [List.drop_drop] using c12)
   obtain ⟨l, hl⟩ := c13 q hq ⟨m, hm⟩
   rw [List.drop_drop] at hl
   have : (tab.drop (283 + 23)).length = 0 := by decide +kernel
   rw [List.length_eq_zero_iff.1 this] at hl
   cases hl
  ·exact mid_says hq (by omega) h1 (mid_all q h2 hqodd h1) hm hm1 h32 h
 ·have hmlt : m - 1 < 16384 := by
   rcases Nat.lt_or_ge m 16384 with h2 | h2
   ·omega
   ·have : 262144 * 16384 ≤ q * m := Nat.mul_le_mul h1 h2
    omega
  exact big_says hq (hq.not_strips h1) (great_all (m - 1) (by omega) (by omega) hmlt) (B3.rest hq hm hm1 hpsp)
theorem Pr.roots {p x : Nat} (hp : Pr p) (h : x * x % p = 1) (hx : x < p) : x = 1 ∨ x = p - 1 := by
 have h2 := hp.1
 have hx0 : 0 < x := Nat.pos_of_ne_zero fun e => by subst e; simp at h
 have hd : p ∣ (x + 1) * (x - 1) := by
  have h1 : p ∣ x * x - 1 := dvd_pred h
  obtain ⟨y, rfl⟩ : ∃ y, x = y + 1 := ⟨x - 1, by omega⟩
  rw [show (y + 1) * (y + 1) - 1 = (y + 1 + 1) * (y + 1 - 1) from by
   rw [Nat.add_sub_cancel, Nat.add_mul, Nat.mul_add, Nat.add_mul, Nat.add_mul]; omega] at h1
  exact h1
 rcases hp.dvd_mul hd with h1 | h1
 ·have := Nat.le_of_dvd (by omega) h1
  omega
 ·rcases Nat.eq_zero_or_pos (x - 1) with h3 | h3
  ·omega
  ·have := Nat.le_of_dvd h3 h1
   omega
theorem Pr.loop_passes {p b : Nat} (hp : Pr p) : ∀ (s e : Nat), b ^ (e * 2 ^ s) % p = 1 → b ^ e % p ≠ 1 → mrLoop p s (b ^ e % p) = true
 | 0, e, h, hn => absurd (by simpa using h) hn
 | s + 1, e, h, hn => by
  rw [mrLoop]
  by_cases h1 : b ^ e % p = p - 1
  ·rw [if_pos h1]
  ·rw [if_neg h1, pow_square]
   refine hp.loop_passes s (e * 2) (by rwa [Nat.mul_assoc, ← Nat.pow_succ']) fun h2 => ?_
   rw [← pow_square] at h2
   rcases hp.roots h2 (Nat.mod_lt _ hp.pos) with h3 | h3
   ·exact hn h3
   ·exact h1 h3
theorem Pr.mr_passes {p b d s : Nat} (hp : Pr p) (hb : ¬ p ∣ b) (h : p - 1 = d * 2 ^ s) : mr b p d s = true := by
 unfold mr
 by_cases h1 : b ^ d % p = 1
 ·rw [if_pos h1]
 ·rw [if_neg h1]
  exact hp.loop_passes s d (h ▸ hp.fermat hb) h1
end Go.Proofs.YtcjgilagldbjnaaGreatDoor
