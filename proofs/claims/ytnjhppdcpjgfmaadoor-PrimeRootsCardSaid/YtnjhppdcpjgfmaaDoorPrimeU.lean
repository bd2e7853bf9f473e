/- The order of a number modulo a prime: what it is, and how a list of factors leads to it. No conditions. -/
import Derived.Test.YtnjhppdcpjgfmaaDoorPrimeN
import Derived.Test.YtnjhppdcpjgfmaaDoorPrimeJ
namespace Go.Proofs.YtnjhppdcpjgfmaaDoor
open Go.RowKit

/-- o is the order of a modulo p. -/
def IsOrd (a p o : Nat) : Prop := 0 < o ∧ a ^ o % p = 1 ∧ ∀ k, a ^ k % p = 1 → o ∣ k
theorem IsOrd.unique {a p o o' : Nat} (h : IsOrd a p o) (h' : IsOrd a p o') : o = o' :=
  Nat.dvd_antisymm (h.2.2 _ h'.2.1) (h'.2.2 _ h.2.1)
def Min1 (a p f d : Nat) : Prop := f ∣ d → a ^ (d / f) % p ≠ 1
theorem Min1.of_dvd {a p f d d' : Nat} (hp : 1 < p) (hf : 0 < f) (h : Min1 a p f d) (hd : d' ∣ d) : Min1 a p f d' := fun hfd hb => by
  refine h (Nat.dvd_trans hfd hd) (pow_of_dvd hp hb ?_)
  obtain ⟨x, rfl⟩ := hfd
  obtain ⟨c, rfl⟩ := hd
  rw [Nat.mul_div_cancel_left _ hf, Nat.mul_assoc, Nat.mul_div_cancel_left _ hf]
  exact Nat.dvd_mul_right _ _
theorem isOrd_of_min {a p d : Nat} (hp : 1 < p) (hd0 : 0 < d) (hd : a ^ d % p = 1) (hm : ∀ f, Pr f → Min1 a p f d) : IsOrd a p d := by
  refine ⟨hd0, hd, fun k hk => ?_⟩
  have hg := pow_gcd hp k d hk hd
  have hgd : Nat.gcd k d ∣ d := Nat.gcd_dvd_right k d
  have hgk : Nat.gcd k d ∣ k := Nat.gcd_dvd_left k d
  obtain ⟨c, hc⟩ := hgd
  generalize Nat.gcd k d = g at hg hgk hc
  rcases Nat.lt_or_ge c 2 with h2 | h2
  · rcases Nat.eq_zero_or_pos c with h0 | h0
    · subst h0; omega
    · obtain rfl : c = 1 := by omega
      rw [hc, Nat.mul_one]; exact hgk
  · obtain ⟨f, hf, hfc⟩ := exists_pr c h2
    refine absurd (pow_of_dvd hp hg ?_) (hm f hf (Nat.dvd_trans hfc ⟨g, by rw [hc, Nat.mul_comm]⟩))
    obtain ⟨e, rfl⟩ := hfc
    rw [hc, show g * (f * e) = f * (g * e) from by ac_rfl, Nat.mul_div_cancel_left _ hf.pos]
    exact Nat.dvd_mul_right _ _
theorem Least.pr {n p : Nat} (h : Least n p) : Pr p := Pr.of_none h.1 fun e h1 h2 h0 => by
  refine h.2.2 e h1 h2 (Nat.mod_eq_zero_of_dvd (Nat.dvd_trans (Nat.dvd_of_mod_eq_zero h0) (Nat.dvd_of_mod_eq_zero h.2.1)))
theorem Fac.has : ∀ {n : Nat} {L : List (Nat × Nat)}, Fac n L → ∀ f, Pr f → f ∣ n → ∃ x ∈ L, x.1 = f
  | n, [], h, f, hf, hd => by
    obtain rfl : n = 1 := h
    exact absurd hd hf.not_dvd_one
  | n, (p, t) :: L, h, f, hf, hd => by
    obtain ⟨m, _, hm, hl, _, hF⟩ := h
    rw [hm] at hd
    rcases hf.dvd_mul hd with h1 | h1
    · exact ⟨(p, t), List.mem_cons_self, (hf.eq_of_dvd hl.pr (hf.dvd_pow h1)).symm⟩
    · obtain ⟨x, hx, he⟩ := hF.has f hf h1
      exact ⟨x, List.mem_cons_of_mem _ hx, he⟩
theorem Fac.all_pr : ∀ {n : Nat} {L : List (Nat × Nat)}, Fac n L → ∀ x ∈ L, Pr x.1 ∧ x.1 ∣ n
  | n, [], _, x, hx => by cases hx
  | n, (p, t) :: L, h, x, hx => by
    obtain ⟨m, ht, hm, hl, _, hF⟩ := h
    rcases List.mem_cons.1 hx with rfl | hx
    · exact ⟨hl.pr, Nat.dvd_of_mod_eq_zero hl.2.1⟩
    · obtain ⟨h1, h2⟩ := hF.all_pr x hx
      exact ⟨h1, hm ▸ Nat.dvd_trans h2 (Nat.dvd_mul_left _ _)⟩

/-- What order's loops keep: e will do, it divides p - 1, and none of the primes that have been gone through can be taken out. -/
def OrdAt (a p : Nat) (D : List (Nat × Nat)) (e : Nat) : Prop := 0 < e ∧ e ∣ p - 1 ∧ a ^ e % p = 1 ∧ ∀ x ∈ D, Min1 a p x.1 e
theorem OrdAt.start {a p : Nat} (hp : Pr p) (h0 : a % p ≠ 0) : OrdAt a p [] (p - 1) :=
  ⟨by have := hp.1; omega, Nat.dvd_refl _, hp.fermat fun hd => h0 (Nat.mod_eq_zero_of_dvd hd), fun x hx => by cases hx⟩
theorem OrdAt.down {a p e f : Nat} {D : List (Nat × Nat)} (hp : 1 < p) (h : OrdAt a p D e) (hD : ∀ x ∈ D, 0 < x.1) (hf : 0 < f) (h1 : e % f = 0) (h2 : a ^ (e / f) % p = 1) : OrdAt a p D (e / f) := by
  have hd := Nat.dvd_of_mod_eq_zero h1
  have hdd : e / f ∣ e := Nat.div_dvd_of_dvd hd
  exact ⟨Nat.div_pos (Nat.le_of_dvd h.1 hd) hf, Nat.dvd_trans hdd h.2.1, h2, fun x hx => (h.2.2.2 x hx).of_dvd hp (hD x hx) hdd⟩
theorem OrdAt.next {a p e f t : Nat} {D : List (Nat × Nat)} (h : OrdAt a p D e) (hn : ¬ (e % f = 0 ∧ a ^ (e / f) % p = 1)) : OrdAt a p (D ++ [(f, t)]) e :=
  ⟨h.1, h.2.1, h.2.2.1, fun x hx => by
    rcases List.mem_append.1 hx with hx | hx
    · exact h.2.2.2 x hx
    · obtain rfl := List.mem_singleton.1 hx
      exact fun hd hb => hn ⟨Nat.mod_eq_zero_of_dvd hd, hb⟩⟩
theorem OrdAt.done {a p e : Nat} {L : List (Nat × Nat)} (hp : 1 < p) (h : OrdAt a p L e) (hF : Fac (p - 1) L) : IsOrd a p e :=
  isOrd_of_min hp h.1 h.2.2.1 fun f hf hd => by
    obtain ⟨x, hx, rfl⟩ := hF.has f hf (Nat.dvd_trans hd h.2.1)
    exact h.2.2.2 x hx hd
theorem OrdAt.le {a p e : Nat} {L : List (Nat × Nat)} (hp : 1 < p) (h : OrdAt a p L e) : e ≤ p - 1 := Nat.le_of_dvd (by omega) h.2.1
end Go.Proofs.YtnjhppdcpjgfmaaDoor
