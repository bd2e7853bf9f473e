/- What the kernel reckons of products of small primes, and wha. -/
import Derived.Test.YtcjgilagldbjnaaGreatDoorPkBb31
namespace Go.Proofs.YtcjgilagldbjnaaGreatDoor
noncomputable def mid (q : Nat) : Bool := ite3 (Nat.beq (Nat.gcd q smallAll) (nat_lit 1)) (order3 q fun L => strict L fun L => leaf q L (nat_lit 1)) true
theorem mid_says {q n m : Nat} (hp : Pr q) (h512 : 512 ≤ q) (hlt : q < 262144) (h : mid q = true) (hn : n = q * m) (hm : 1 < m) (h32 : n < 4294967296) (hpass : Passes n) : False := by
 have hn1 : 1 < n := by
  have : 2 * 2 ≤ q * m := Nat.mul_le_mul hp.1 hm
  omega
 have hpsp := hpass.psp hn1
 unfold mid at h
 have hg : Nat.gcd q smallAll = 1 := by
  rcases hp.2 _ (Nat.gcd_dvd_left q smallAll) with e | e
  ·exact e
  ·have := hp.small_iff.1 (e ▸ Nat.gcd_dvd_right q smallAll)
   omega
 have hg' : Nat.beq (Nat.gcd q smallAll) 1 = true := by rw [hg]; rfl
 have h : ite3 (Nat.beq (Nat.gcd q smallAll) 1) (order3 q fun L => strict L fun L => leaf q L 1) true = true := h
 rw [hg'] at h
 have hb : B3 q (n - 1) := B3.down hpsp hp.1 ⟨m, hn⟩
 obtain ⟨L, h1, h0, hL⟩ := order3_says hp hlt (B3.fermat hp (by omega) hb) _ h
 rw [strict_eq] at h1
 have hd := hL _ hb
 refine bad_says hn1 (hn ▸ leaf_says h1 hp.pos (by omega) (by omega) ?_) hpass
 have hx := (and3 h1).1
 have hx : 2 ≤ L := Nat.le_of_ble_eq_true hx
 obtain ⟨c, hc⟩ := hd
 rw [← hn, show n = 1 + L * c from by omega, Nat.add_mul_mod_self_left, Nat.mod_eq_of_lt hx]
noncomputable def egcd (L : Nat) (c : Nat) : Nat → Nat → Nat → Nat → (Nat → Bool) → Bool := Nat.rec (fun _ _ _ _ _ => false) (fun _ ih a b x y K => ite3 (Nat.beq b (nat_lit 1)) (K y) (strict (Nat.div a b) fun q => strict (Nat.mod a b) fun r => strict (Nat.mod (Nat.add x (Nat.mul (Nat.sub L (Nat.mod q L)) y)) L) fun z => ih b r y z K)) c
theorem egcd_says (L : Nat) (K : Nat → Bool) : ∀ (c a b x y : Nat), egcd L c a b x y K = true → ∃ z, K z = true
 | 0, _, _, _, _, h => by cases h
 | c + 1, a, b, x, y, h => by
  have h : ite3 (Nat.beq b 1) (K y) (strict (a / b) fun q => strict (a % b) fun r => strict ((x + (L - q % L) * y) % L) fun z => egcd L c b r y z K) = true := h
  cases hb : Nat.beq b 1 with
  | true => rw [hb] at h; exact ⟨y, h⟩
  | false =>
   rw [hb] at h
   have h : (strict (a / b) fun q => strict (a % b) fun r => strict ((x + (L - q % L) * y) % L) fun z => egcd L c b r y z K) = true := h
   rw [strict_eq, strict_eq, strict_eq] at h
   exact egcd_says L K c _ _ _ _ h
noncomputable def node (dfsRest : Nat → Nat → Bool) (r l P L : Nat) : Bool :=
 strict (Nat.mul P r) fun P' => ite3 (Nat.ble P' (nat_lit 4294967295)) (ite3 (Nat.beq (Nat.gcd r L) (nat_lit 1)) (ite3 (Nat.beq (Nat.gcd l P) (nat_lit 1))
  (ite3 (ite3 (Nat.beq P (nat_lit 1)) true (bad P'))
   (strict (Nat.div (Nat.mul L l) (Nat.gcd L l)) fun L' => ite3 (Nat.ble (Nat.div (Nat.div (nat_lit 4294967295) P') L') (nat_lit 16))
    (strict (Nat.mod P' L') fun b => egcd L' (nat_lit 64) L' b (nat_lit 0) (nat_lit 1) fun x => leaf P' L' x)
    (dfsRest P' L')) false) true) true) true
noncomputable def dfs (ps : List (Nat × Nat)) : Nat → Nat → Bool := List.rec (fun _ _ => true) (fun a _ ih P L => ite3 (node ih a.1 a.2 P L) (ih P L) false) ps
def Covered (ps : List (Nat × Nat)) (t : Nat) : Prop := ∀ p, Pr p → p ∣ t → ∃ l, (p, l) ∈ ps
def Told (n : Nat) (ps : List (Nat × Nat)) : Prop := ∀ a ∈ ps, Pr a.1 → a.1 ∣ n → a.2 ∣ n - 1 ∧ 0 < a.2 ∧ ¬ a.1 * a.1 ∣ n
theorem Told.tail {n : Nat} {a : Nat × Nat} {ps : List (Nat × Nat)} (h : Told n (a :: ps)) : Told n ps := fun x hx => h x (List.mem_cons_of_mem _ hx)
theorem coprime_of_pred {n a b : Nat} (hn : 0 < n) (ha : a ∣ n) (hb : b ∣ n - 1) : Nat.gcd a b = 1 := by
 have h1 : Nat.gcd a b ∣ n := Nat.dvd_trans (Nat.gcd_dvd_left a b) ha
 have h2 : Nat.gcd a b ∣ n - 1 := Nat.dvd_trans (Nat.gcd_dvd_right a b) hb
 have h3 : Nat.gcd a b ∣ 1 := (Nat.dvd_add_right h2).1 (by rwa [show n - 1 + 1 = n from by omega])
 exact Nat.dvd_one.1 h3
theorem Covered.not_head {a : Nat × Nat} {ps : List (Nat × Nat)} {t : Nat} (h : Covered (a :: ps) t) (ha : ¬ (Pr a.1 ∧ a.1 ∣ t)) : Covered ps t := fun p hp hd => by
 obtain ⟨l, hl⟩ := h p hp hd
 rcases List.mem_cons.1 hl with e | hl
 ·exact absurd (by rw [← e]; exact ⟨hp, hd⟩) ha
 ·exact ⟨l, hl⟩
theorem node_says {n : Nat} (hn1 : 1 < n) (h32 : n < 4294967296) (hpass : Passes n) (hnp : ¬ Pr n) {ps : List (Nat × Nat)} {r l P L t : Nat} (D : Nat → Nat → Bool)
  (hD : ∀ P L t, D P L = true → n = P * t → 1 < t → L ∣ n - 1 → 0 < L → Covered ps t → False)
  (h : node D r l P L = true) (hr : Pr r) (hl : l ∣ n - 1) (hl0 : 0 < l) (hsq : ¬ r * r ∣ n) (hL : L ∣ n - 1) (hL0 : 0 < L) (hn : n = P * t) (hrt : r ∣ t) (hc : Covered ((r, l) :: ps) t) : False := by
 obtain ⟨u, rfl⟩ := hrt
 have hn' : n = P * r * u := by rw [hn, Nat.mul_assoc]
 have hu0 : 0 < u := Nat.pos_of_ne_zero fun h => by subst h; simp at hn; omega
 have hP0 : 0 < P := Nat.pos_of_ne_zero fun h => by subst h; simp at hn; omega
 have hle : P * r ≤ n := by rw [hn']; exact Nat.le_mul_of_pos_right _ hu0
 have hPr : 0 < P * r := Nat.mul_pos hP0 hr.pos
 unfold node at h
 rw [strict_eq] at h
 have e1 : Nat.ble (P * r) 4294967295 = true := Nat.ble_eq_true_of_le (by omega)
 have e2 : Nat.beq (Nat.gcd r L) 1 = true := by rw [coprime_of_pred (by omega) ⟨P * u, by rw [hn']; ac_rfl⟩ hL]; rfl
 have e3 : Nat.beq (Nat.gcd l P) 1 = true := by rw [Nat.gcd_comm, coprime_of_pred (by omega) ⟨r * u, hn⟩ hl]; rfl
 change ite3 (Nat.ble (P * r) 4294967295) (ite3 (Nat.beq (Nat.gcd r L) 1) (ite3 (Nat.beq (Nat.gcd l P) 1) (ite3 (ite3 (Nat.beq P 1) true (bad (P * r))) (strict (L * l / Nat.gcd L l) fun L' => ite3 (Nat.ble (4294967295 / (P * r) / L') 16) (strict (P * r % L') fun b => egcd L' 64 L' b 0 1 fun x => leaf (P * r) L' x) (D (P * r) L')) false) true) true) true = true at h
 rw [e1, e2, e3] at h
 change ite3 (ite3 (Nat.beq P 1) true (bad (P * r))) (strict (L * l / Nat.gcd L l) fun L' => ite3 (Nat.ble (4294967295 / (P * r) / L') 16) (strict (P * r % L') fun b => egcd L' 64 L' b 0 1 fun x => leaf (P * r) L' x) (D (P * r) L')) false = true at h
 obtain ⟨h1, h⟩ := and3 h
 rw [strict_eq] at h
 have hlcm : L * l / Nat.gcd L l = Nat.lcm L l := rfl
 have hL' : L * l / Nat.gcd L l ∣ n - 1 := by rw [hlcm]; exact Nat.lcm_dvd hL hl
 have hL0' : 0 < L * l / Nat.gcd L l := by rw [hlcm]; exact Nat.lcm_pos hL0 hl0
 generalize L * l / Nat.gcd L l = M at h hL' hL0'
 by_cases hu1 : u = 1
 ·subst hu1
  rw [Nat.mul_one] at hn'
  cases hb : Nat.beq P 1 with
  | true =>
   have := Nat.eq_of_beq_eq_true hb
   subst this
   rw [Nat.one_mul] at hn'
   exact hnp (hn' ▸ hr)
  | false =>
   rw [hb] at h1
   exact bad_says hn1 (hn' ▸ h1) hpass
 ·cases hb : Nat.ble (4294967295 / (P * r) / M) 16 with
  | true =>
   rw [hb] at h
   change strict (P * r % M) (fun b => egcd M 64 M b 0 1 fun x => leaf (P * r) M x) = true at h
   rw [strict_eq] at h
   obtain ⟨x, hx⟩ := egcd_says M _ _ _ _ _ _ h
   refine bad_says hn1 (hn' ▸ leaf_says hx hPr hu1 (by omega) ?_) hpass
   have hx1 : x + 1 ≤ M := Nat.le_of_ble_eq_true (and3 hx).1
   have hx2 : P * r * x % M = 1 := Nat.eq_of_beq_eq_true (and3 (and3 hx).2).1
   have hM1 : 1 < M := by
    rcases Nat.lt_or_ge 1 M with h | h
    ·exact h
    ·obtain rfl : M = 1 := by omega
     rw [Nat.mod_one] at hx2; omega
   obtain ⟨c, hc⟩ := hL'
   rw [← hn', show n = 1 + M * c from by omega, Nat.add_mul_mod_self_left, Nat.mod_eq_of_lt hM1]
  | false =>
   rw [hb] at h
   refine hD _ _ u h hn' (by omega) hL' hL0' fun p hp hd => ?_
   obtain ⟨k, hk⟩ := hc p hp (Nat.dvd_trans hd ⟨r, Nat.mul_comm _ _⟩)
   rcases List.mem_cons.1 hk with e | hk
   ·simp only [Prod.mk.injEq] at e
    refine absurd ?_ hsq
    obtain ⟨v, hv⟩ := hd
    rw [e.1] at hv
    exact ⟨P * v, by rw [hn', hv]; ac_rfl⟩
   ·exact ⟨k, hk⟩
theorem dfs_says {n : Nat} (hn1 : 1 < n) (h32 : n < 4294967296) (hpass : Passes n) (hnp : ¬ Pr n) : ∀ (ps : List (Nat × Nat)), Told n ps → ∀ P L t, dfs ps P L = true → n = P * t → 1 < t → L ∣ n - 1 → 0 < L → Covered ps t → False
 | [], _, P, L, t, _, _, ht, _, _, hc => by
  obtain ⟨p, hp, hd⟩ := exists_pr t ht
  obtain ⟨l, hl⟩ := hc p hp hd
  cases hl
 | (r, l) :: ps, htold, P, L, t, h, hn, ht, hL, hL0, hc => by
  have h : ite3 (node (dfs ps) r l P L) (dfs ps P L) false = true := h
  obtain ⟨h1, h2⟩ := and3 h
  by_cases hrt : Pr r ∧ r ∣ t
  ·obtain ⟨hr, hrt⟩ := hrt
   obtain ⟨hl, hl0, hsq⟩ := htold (r, l) List.mem_cons_self hr (Nat.dvd_trans hrt ⟨P, by rw [hn, Nat.mul_comm]⟩)
   exact node_says hn1 h32 hpass hnp (dfs ps) (dfs_says hn1 h32 hpass hnp ps htold.tail) h1 hr hl hl0 hsq hL hL0 hn hrt hc
  ·exact dfs_says hn1 h32 hpass hnp ps htold.tail P L t h2 hn ht hL hL0 (hc.not_head hrt)
noncomputable def heads (c : Nat) : List (Nat × Nat) → Bool := Nat.rec (fun _ => true) (fun _ ih ps => List.rec true (fun a rest _ => ite3 (node (dfs rest) a.1 a.2 (nat_lit 1) (nat_lit 1)) (ih rest) false) ps) c
theorem heads_says {n : Nat} (hn1 : 1 < n) (h32 : n < 4294967296) (hpass : Passes n) (hnp : ¬ Pr n) : ∀ (c : Nat) (ps : List (Nat × Nat)), heads c ps = true → Told n ps → Covered ps n → Covered (ps.drop c) n
 | 0, _, _, _, hc => hc
 | c + 1, [], _, _, hc => hc
 | c + 1, (r, l) :: ps, h, htold, hc => by
  have h : ite3 (node (dfs ps) r l 1 1) (heads c ps) false = true := h
  obtain ⟨h1, h2⟩ := and3 h
  by_cases hrt : Pr r ∧ r ∣ n
  ·obtain ⟨hr, hrt⟩ := hrt
   obtain ⟨hl, hl0, hsq⟩ := htold (r, l) List.mem_cons_self hr hrt
   exact (node_says hn1 h32 hpass hnp (dfs ps) (dfs_says hn1 h32 hpass hnp ps htold.tail) h1 hr hl hl0 hsq (Nat.one_dvd _) (by omega) (Nat.one_mul n).symm hrt hc).elim
  ·exact heads_says hn1 h32 hpass hnp c ps h2 htold.tail (hc.not_head hrt)
end Go.Proofs.YtcjgilagldbjnaaGreatDoor
