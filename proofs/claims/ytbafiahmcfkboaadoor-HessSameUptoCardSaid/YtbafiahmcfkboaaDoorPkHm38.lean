/- One step of a long division of polynomials. No conditions. The contract of divide. Conditions: p a prime below 2^32; both normal, the divisor not 0; bases reads 2, 7, 61. Greatest common divisors by Euclid's steps. Conditions: p a prime. The contracts of rest, over, monic, gcd, fieldOf. Conditions: p a prime below 2^32; all normal; bases reads 2, 7, 61. -/
import Derived.Test.YtbafiahmcfkboaaDoorPkHm37
import Derived.Test.YtbafiahmcfkboaaDoorPkHm35
namespace Go.Proofs.YtbafiahmcfkboaaDoor
section
theorem getD_set (l : List Nat) (i j x : Nat) (h : i < l.length) : (l.set i x).getD j 0 = if i = j then x else l.getD j 0 := by
  simp only [List.getD_eq_getElem?_getD, List.getElem?_set]
  split
  · subst i; simp
  · rfl
/-- The first i numbers of ys, times m, on those from k on. -/
def dstep (p m k : Nat) (ys : List Nat) (R : List Nat) : Nat → List Nat
  | 0 => R
  | i + 1 => (dstep p m k ys R i).set (k + i) (((dstep p m k ys R i).getD (k + i) 0 + m * ys.getD i 0) % p)
section
variable {p m k : Nat} {ys R : List Nat}
theorem dstep_length (i : Nat) : (dstep p m k ys R i).length = R.length := by
  induction i with
  | zero => rfl
  | succ i ih => rw [dstep, List.length_set, ih]
theorem dstep_getD (i : Nat) (h : k + i ≤ R.length) (j : Nat) : (dstep p m k ys R i).getD j 0 = if k ≤ j ∧ j < k + i then (R.getD j 0 + m * ys.getD (j - k) 0) % p else R.getD j 0 := by
  induction i generalizing j with
  | zero => rw [dstep, if_neg (by omega)]
  | succ i ih =>
    have e0 : (dstep p m k ys R i).getD (k + i) 0 = R.getD (k + i) 0 := by rw [ih (by omega), if_neg (by omega)]
    rw [dstep, getD_set _ _ _ _ (by rw [dstep_length]; omega), e0, ih (by omega) j]
    by_cases e : k + i = j
    · subst e
      rw [if_pos rfl, if_pos (by omega), Nat.add_sub_cancel_left]
    · rw [if_neg e]
      by_cases h2 : k ≤ j ∧ j < k + i
      · rw [if_pos h2, if_pos (by omega)]
      · rw [if_neg h2, if_neg (by omega)]
theorem dstep_lt (hp : 0 < p) (hR : ∀ x ∈ R, x < p) (i : Nat) : ∀ x ∈ dstep p m k ys R i, x < p := by
  induction i with
  | zero => exact hR
  | succ i ih =>
    intro x hx
    rw [dstep] at hx
    rcases List.mem_or_eq_of_mem_set hx with h | h
    · exact ih x h
    · rw [h]; exact Nat.mod_lt _ hp
theorem ev_shift (k : Nat) (a : List Int) (x : Int) : ev (List.replicate k 0 ++ a) x = x ^ k * ev a x := by
  induction k with
  | zero => simp
  | succ k ih => rw [List.replicate_succ, List.cons_append, ev, ih, Int.pow_succ]; grind
theorem getD_shift (k : Nat) (a : List Int) (j : Nat) : (List.replicate k (0 : Int) ++ a).getD j 0 = if k ≤ j then a.getD (j - k) 0 else 0 := by
  simp only [List.getD_eq_getElem?_getD]
  by_cases h : k ≤ j
  · rw [if_pos h, List.getElem?_append_right (by simpa using h), List.length_replicate]
  · rw [if_neg h, List.getElem?_append_left (by simpa using h), List.getElem?_replicate, if_pos (by omega)]; rfl
theorem dstep_cg (h : k + ys.length ≤ R.length) : Cg p (zo (dstep p m k ys R ys.length)) (zo R + .c m * Z.X.pow k * zo ys) := by
  refine (Cg.of_co (b := addI (zi R) (sclI m (List.replicate k 0 ++ zi ys))) fun j => ?_).trans (Cg.of_eq fun x => by
    rw [Z.v_add, Z.v_mul, Z.v_mul, Z.v_c, Z.v_pow, Z.v_X]
    show ev (addI _ _) x = _
    rw [ev_addI, ev_sclI, ev_shift]
    show ev (zi R) x + _ = ev (zi R) x + m * x ^ k * ev (zi ys) x
    grind)
  rw [zi_getD, getD_addI, getD_sclI, getD_shift, zi_getD, dstep_getD _ h]
  by_cases h1 : k ≤ j
  · rw [if_pos h1, zi_getD]
    by_cases h2 : j < k + ys.length
    · rw [if_pos ⟨h1, h2⟩]
      generalize R.getD j 0 = a
      generalize ys.getD (j - k) 0 = b
      obtain ⟨c, hc⟩ : (p : Int) ∣ (((a + m * b) % p : Nat) : Int) - ((a + m * b : Nat) : Int) := by
        have h := Nat.div_add_mod (a + m * b) p
        exact ⟨-(((a + m * b) / p : Nat) : Int), by
          have h2 : ((p * ((a + m * b) / p) + (a + m * b) % p : Nat) : Int) = (a + m * b : Nat) := by rw [h]
          rw [Int.natCast_add (p * _), Int.natCast_mul] at h2
          rw [Int.mul_neg]; omega⟩
      exact ⟨c, by rw [← hc, Int.natCast_add, Int.natCast_mul]⟩
    · rw [if_neg (by omega), getD_nat (a := ys) (by omega)]
      exact ⟨0, by simp⟩
  · rw [if_neg h1, if_neg (by omega)]
    exact ⟨0, by simp⟩
theorem set_cg {Q : List Nat} {d : Nat} (h : k < Q.length) (h0 : Q.getD k 0 = 0) : Cg p (zo (Q.set k d)) (zo Q + .c d * Z.X.pow k) := by
  refine (Cg.of_co (b := addI (zi Q) (sclI d (List.replicate k 0 ++ [1]))) fun j => ?_).trans (Cg.of_eq fun x => by
    rw [Z.v_add, Z.v_mul, Z.v_c, Z.v_pow, Z.v_X]
    show ev (addI _ _) x = _
    rw [ev_addI, ev_sclI, ev_shift]
    show ev (zi Q) x + _ = ev (zi Q) x + d * x ^ k
    simp [ev])
  rw [zi_getD, getD_addI, getD_sclI, getD_shift, zi_getD, getD_set _ _ _ _ h]
  by_cases e : k = j
  · subst e
    rw [if_pos rfl, if_pos (Nat.le_refl _), h0]
    exact ⟨0, by simp⟩
  · rw [if_neg e]
    by_cases h1 : k ≤ j
    · rw [if_pos h1, getD_none (by simp; omega)]
      exact ⟨0, by simp⟩
    · rw [if_neg h1]
      exact ⟨0, by simp⟩
end

/-- The quotient's length. -/
theorem Dv.len_q {p : Nat} (hp : Pr p) {a b q r : List Nat} (h : Dv p (zo a) (zo b) b.length q r) (_ : Nf p a) (hb : Nf p b) : q.length ≤ a.length + 1 := by
  by_cases nq : q = []
  · subst nq; simp
  have nb : b ≠ [] := by rintro rfl; have := h.lt; simp at this
  have h5 := Nf.top_mul hp h.nq hb nq nb
  have h6 := h.eq.co (q.length + b.length - 2)
  have h7 := len_pos nq
  have h8 := len_pos nb
  have h9 := h.lt
  rcases Nat.lt_or_ge (a.length + 1) (q.length + b.length) with h10 | h10
  · rw [Z.co_add, zo_co r, getD_nat (a := r) (by omega), zo_co a, getD_nat (a := a) (by omega)] at h6
    exact absurd (by simpa using h6) h5
  · omega
/-- The state of a long division: k places are left. -/
structure Dl (p : Nat) (a b Q R : List Nat) (k : Nat) : Prop where
  lenQ : Q.length + b.length = a.length + 1
  lenR : R.length = a.length
  dq : ∀ x ∈ Q, x < p
  dr : ∀ x ∈ R, x < p
  q0 : ∀ j, j < k → Q.getD j 0 = 0
  r0 : ∀ j, k + b.length ≤ j + 1 → R.getD j 0 = 0
  eq : Cg p (zo a) (zo Q * zo b + zo R)
theorem Dl.start {p : Nat} {a b : List Nat} (hp : 0 < p) (ha : ∀ x ∈ a, x < p) (hl : b.length ≤ a.length) : Dl p a b (List.replicate (a.length - b.length + 1) 0) a (a.length - b.length + 1) where
  lenQ := by simp; omega
  lenR := rfl
  dq := fun x h => by rw [(List.mem_replicate.1 h).2]; exact hp
  dr := ha
  q0 := fun j _ => by simp [List.getD_eq_getElem?_getD, List.getElem?_replicate]; split <;> rfl
  r0 := fun j hj => getD_nat (by omega)
  eq := Cg.of_eq fun x => by
    have : (zo (List.replicate (a.length - b.length + 1) 0)).v x = 0 := by
      generalize a.length - b.length + 1 = n
      induction n with
      | zero => rfl
      | succ n ih => rw [List.replicate_succ, zo_cons, ih]; simp
    rw [Z.v_add, Z.v_mul, this]; omega
/-- A digit that is 0. -/
theorem Dl.skip {p : Nat} {a b Q R : List Nat} {k : Nat} (h : Dl p a b Q R (k + 1)) (h0 : R.getD (k + b.length - 1) 0 = 0) (hb : 0 < b.length) : Dl p a b Q R k :=
  ⟨h.lenQ, h.lenR, h.dq, h.dr, fun j hj => h.q0 j (by omega), fun j hj => by
    by_cases e : j = k + b.length - 1
    · rw [e]; exact h0
    · exact h.r0 j (by omega), h.eq⟩
/-- A digit d that is not: m is minus it. -/
theorem Dl.step {p : Nat} {a b Q R : List Nat} {k d m : Nat} (h : Dl p a b Q R (k + 1)) (hb : 0 < b.length) (hp : 0 < p) (hk : k < Q.length) (hd : d < p) (hm : (p : Int) ∣ (m : Int) - -(d : Int)) (hz : (R.getD (k + b.length - 1) 0 + m * b.getD (b.length - 1) 0) % p = 0) :
    Dl p a b (Q.set k d) (dstep p m k b R b.length) k := by
  have h1 := h.lenQ
  have h2 := h.lenR
  refine ⟨by rw [List.length_set]; exact h1, by rw [dstep_length]; exact h2, fun x hx => ?_, dstep_lt hp h.dr _, fun j hj => ?_, fun j hj => ?_, ?_⟩
  · rcases List.mem_or_eq_of_mem_set hx with h3 | h3
    · exact h.dq x h3
    · rw [h3]; exact hd
  · rw [getD_set _ _ _ _ hk, if_neg (by omega)]; exact h.q0 j (by omega)
  · rw [dstep_getD _ (by omega)]
    by_cases e : j = k + b.length - 1
    · subst e
      rw [if_pos (by omega), show k + b.length - 1 - k = b.length - 1 by omega]; exact hz
    · rw [if_neg (by omega)]; exact h.r0 j (by omega)
  · obtain ⟨c, hc⟩ := hm
    have e1 := set_cg (p := p) (d := d) hk (h.q0 k (by omega))
    have e2 := dstep_cg (p := p) (m := m) (k := k) (ys := b) (R := R) (by omega)
    have e3 : Cg p (zo (Q.set k d) * zo b + zo (dstep p m k b R b.length)) (zo Q * zo b + zo R) := by
      obtain ⟨c1, h1⟩ := e1
      obtain ⟨c2, h2⟩ := e2
      refine ⟨c1 * zo b + c2 + .c c * Z.X.pow k * zo b, fun x => ?_⟩
      have h1 := h1 x
      have h2 := h2 x
      have hm : (m : Int) = -(d : Int) + p * c := by omega
      simp only [Z.v_add, Z.v_mul, Z.v_c] at h1 h2 ⊢
      rw [h1, h2, hm]
      grind
    exact h.eq.trans e3.symm
/-- The end. -/
theorem Dl.done {p : Nat} {a b Q R : List Nat} (hp : Pr p) (h : Dl p a b Q R 0) (ha : Nf p a) (_ : Nf p b) (nb : b ≠ []) (hl : b.length ≤ a.length) : Dv p (zo a) (zo b) b.length Q (trimL R) := by
  have l1 := len_pos nb
  have h1 := h.lenQ
  refine ⟨⟨h.dq, ?_⟩, Nf.trim h.dr, ?_, h.eq.trans ((Cg.refl _).add (Cg.trim R).symm)⟩
  · by_cases hq : Q.getD (Q.length - 1) 0 = 0
    · exfalso
      have na : a ≠ [] := by rintro rfl; simp at hl; exact nb hl
      refine ha.top hp.pos na ?_
      have h2 := h.eq.co (a.length - 1)
      have h3 := top_mulI (zi Q) (zi b) (Q.length - 1) (b.length - 1) (by rw [zi_length]; omega) (by rw [zi_length]; omega)
      rw [show Q.length - 1 + (b.length - 1) = a.length - 1 by omega, zi_getD, zi_getD, hq] at h3
      have h4 : (zo Q * zo b).co (a.length - 1) = 0 := by
        show (mulI (zi Q) (zi b)).getD (a.length - 1) 0 = 0
        rw [h3]; simp
      have h5 := h.r0 (a.length - 1) (by omega)
      rw [Z.co_add, h4, zo_co, zo_co, h5] at h2
      simpa using h2
    · rcases List.eq_nil_or_concat Q with rfl | ⟨l', x, rfl⟩
      · rfl
      · rw [List.concat_eq_append] at hq ⊢
        exact trimL_snoc_pos _ _ (by simpa using hq)
  · rcases Nat.lt_or_ge (trimL R).length b.length with h2 | h2
    · exact h2
    · exfalso
      have h3 := trimL_top (trimL_trimL R) (by intro e; rw [e, List.length_nil] at h2; omega)
      rw [trimL_getD] at h3
      exact h3 (h.r0 _ (by omega))
end
section
open Go.RowKit
end
section
section
variable {p : Nat}
/-- r: xs over its top coefficient. -/
structure MoOf (p : Nat) (xs r : List Nat) : Prop where
  nf : Nf p r
  mo : Mo9z r
  by_ : ∃ c : Int, Cg p (zo r) (zo xs * .c c)
  back : ∃ c : Int, Cg p (zo xs) (zo r * .c c)
theorem MoOf.none_ (p : Nat) : MoOf p [] [] := ⟨Nf.nil_ p, fun h => absurd rfl h, ⟨0, Cg.of_eq fun x => by rw [Z.v_mul, zo_nil]; omega⟩, ⟨0, Cg.of_eq fun x => by rw [Z.v_mul, zo_nil]; omega⟩⟩
theorem len_of_c {r xs : List Nat} {c : Int} (hp : 0 < p) (hr : Nf p r) (h : Cg p (zo r) (zo xs * .c c)) : r.length ≤ xs.length := hr.len_le hp h fun i hi => by
  have : (zo xs * Z.c c).co i = 0 := by
    rw [Z.co_of_v (b := ⟨sclI c (zi xs)⟩) (fun x => by rw [Z.v_mul, Z.v_c, Int.mul_comm]; exact (ev_sclI _ _ _).symm)]
    show (sclI c (zi xs)).getD i 0 = 0
    rw [getD_sclI, zi_getD, getD_nat hi]; simp
  rw [this]; exact Int.dvd_zero _
theorem MoOf.len {xs r : List Nat} (h : MoOf p xs r) (hp : 0 < p) (hx : Nf p xs) : r.length = xs.length := by
  obtain ⟨c, hc⟩ := h.by_
  obtain ⟨d, hd⟩ := h.back
  exact Nat.le_antisymm (len_of_c hp h.nf hc) (len_of_c hp hx hd)
theorem Dd.of_mul {a b k : Z} (h : Cg p a (b * k)) : Dd p b a := ⟨k, h.trans (Cg.of_eq fun x => by rw [Z.v_mul, Z.v_mul, Int.mul_comm])⟩
theorem MoOf.gc {xs r : List Nat} (h : MoOf p xs r) : Gc p (zo xs) (zo []) r := by
  obtain ⟨c, hc⟩ := h.by_
  obtain ⟨d, hd⟩ := h.back
  exact ⟨h.nf, h.mo, ⟨.c c, .c 0, hc.trans (Cg.of_eq fun x => by simp only [Z.v_mul, Z.v_add, Z.v_c, zo_nil]; grind)⟩, Dd.of_mul hd, ⟨.c 0, Cg.of_eq fun x => by simp only [Z.v_mul, Z.v_c, zo_nil]; grind⟩⟩
theorem Gc.step {a b : Z} {n : Nat} {q r g : List Nat} (h : Dv p a b n q r) (hg : Gc p b (zo r) g) : Gc p a b g := by
  obtain ⟨s, t, hl⟩ := hg.lin
  refine ⟨hg.nf, hg.mo, ⟨t, s - t * zo q, ?_⟩, Dd.lin hg.left hg.right (zo q) (.c 1) (h.eq.trans (Cg.of_eq fun x => by simp only [Z.v_mul, Z.v_add, Z.v_c]; grind)), hg.left⟩
  exact hl.lin2 h.eq (.c 1) (.c (-1) * t) fun x => by simp only [Z.v_mul, Z.v_add, Z.v_sub, Z.v_c]; grind
theorem Gc.swap {a b : Z} {g : List Nat} (h : Gc p a b g) : Gc p b a g := by
  obtain ⟨s, t, hl⟩ := h.lin
  exact ⟨h.nf, h.mo, ⟨t, s, hl.trans (Cg.of_eq fun x => by rw [Z.v_add, Z.v_add]; omega)⟩, h.right, h.left⟩
end
end
section
open Go.RowKit

/-- Shorter than Big. -/
def Sm : Nat := 1099511627776
end
end Go.Proofs.YtbafiahmcfkboaaDoor
