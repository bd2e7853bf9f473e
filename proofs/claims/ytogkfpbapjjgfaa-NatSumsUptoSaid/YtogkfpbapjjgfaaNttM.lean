/- Plain algebra: a transform by halves and back over any commutative ring. No conditions. -/
namespace Go.Proofs.Ytogkfpbapjjgfaa
section Ring
variable {z9 : Nat} [NeZero z9]

def sm (f : Nat → Fin z9) : Nat → Fin z9
  | 0 => 0
  | n + 1 => sm f n + f n

theorem sm_congr {f g : Nat → Fin z9} (n : Nat) (h : ∀ i, i < n → f i = g i) : sm f n = sm g n := by
  induction n with
  | zero => rfl
  | succ n ih => simp only [sm, ih (fun i hi => h i (by omega)), h n (by omega)]
theorem sm_add (f g : Nat → Fin z9) (n : Nat) : sm (fun i => f i + g i) n = sm f n + sm g n := by
  induction n with
  | zero => simp only [sm]; grind
  | succ n ih => simp only [sm, ih]; grind
theorem sm_mul (c : Fin z9) (f : Nat → Fin z9) (n : Nat) : sm (fun i => c * f i) n = c * sm f n := by
  induction n with
  | zero => simp only [sm]; grind
  | succ n ih => simp only [sm, ih]; grind
theorem sm_split (f : Nat → Fin z9) (a b : Nat) : sm f (a + b) = sm f a + sm (fun i => f (a + i)) b := by
  induction b with
  | zero => simp only [sm, Nat.add_zero]; grind
  | succ n ih => rw [← Nat.add_assoc]; simp only [sm, ih]; grind
theorem sm_shift (f : Nat → Fin z9) (n : Nat) : sm f (n + 1) = f 0 + sm (fun i => f (i + 1)) n := by
  rw [Nat.add_comm, sm_split]
  simp only [sm, Nat.add_comm 1]; grind
theorem sm_zero (n : Nat) : sm (fun _ => (0 : Fin z9)) n = 0 := by
  induction n with
  | zero => rfl
  | succ n ih => simp only [sm, ih]; grind

theorem pw_zero (a : Fin z9) : a ^ 0 = 1 := by grind
theorem pw_succ (a : Fin z9) (n : Nat) : a ^ (n + 1) = a ^ n * a := by grind
theorem pw_add (a : Fin z9) (m n : Nat) : a ^ (m + n) = a ^ m * a ^ n := by
  induction n with
  | zero => rw [Nat.add_zero, pw_zero]; grind
  | succ n ih => rw [← Nat.add_assoc, pw_succ, pw_succ, ih]; grind
theorem pw_mul (a b : Fin z9) (n : Nat) : (a * b) ^ n = a ^ n * b ^ n := by
  induction n with
  | zero => rw [pw_zero, pw_zero, pw_zero]; grind
  | succ n ih => rw [pw_succ, pw_succ, pw_succ, ih]; grind
theorem pw_one (n : Nat) : (1 : Fin z9) ^ n = 1 := by
  induction n with
  | zero => rw [pw_zero]
  | succ n ih => rw [pw_succ, ih]; grind
theorem pw_pw (a : Fin z9) (m n : Nat) : a ^ (m * n) = (a ^ m) ^ n := by
  induction n with
  | zero => rw [Nat.mul_zero, pw_zero, pw_zero]
  | succ n ih => rw [Nat.mul_succ, pw_add, ih, pw_succ]

/-- One layer down: from blocks of 2 h to blocks of h. -/
def sLay (h : Nat) (rt : Nat → Fin z9) (x : Nat → Fin z9) : Nat → Fin z9 := fun j =>
  if j % (2 * h) < h then x j + x (j + h) else (x (j - h) - x j) * rt (j % (2 * h) - h)
/-- One layer up. -/
def gLay (h : Nat) (rt : Nat → Fin z9) (x : Nat → Fin z9) : Nat → Fin z9 := fun j =>
  if j % (2 * h) < h then x j + x (j + h) * rt (j % (2 * h)) else x (j - h) - x j * rt (j % (2 * h) - h)

theorem mod_low {h r i : Nat} (hi : i < h) : (2 * h * r + i) % (2 * h) = i := by
  rw [Nat.mul_add_mod, Nat.mod_eq_of_lt (by omega)]
theorem mod_high {h r i : Nat} (hi : i < h) : (2 * h * r + h + i) % (2 * h) = h + i := by
  rw [Nat.add_assoc, Nat.mul_add_mod, Nat.mod_eq_of_lt (by omega)]

theorem s_low (h r : Nat) (rt x : Nat → Fin z9) (t : Fin z9) (ht : t ^ h = 1) :
    sm (fun i => sLay h rt x (2 * h * r + i) * t ^ i) h = sm (fun i => x (2 * h * r + i) * t ^ i) (2 * h) := by
  rw [Nat.two_mul h, sm_split, ← sm_add]
  refine sm_congr h fun i hi => ?_
  have e : sLay h rt x ((h + h) * r + i) = x ((h + h) * r + i) + x ((h + h) * r + i + h) := by
    unfold sLay
    rw [← Nat.two_mul, mod_low hi, if_pos hi]
  rw [e, pw_add, ht, show (h + h) * r + (h + i) = (h + h) * r + i + h from by omega]
  grind
theorem s_high (h r : Nat) (rt x : Nat → Fin z9) (t w : Fin z9) (ht : t ^ h = 1) (hw : w ^ h = -1) (hrt : ∀ i, i < h → rt i = w ^ i) :
    sm (fun i => sLay h rt x (2 * h * r + h + i) * t ^ i) h = sm (fun i => x (2 * h * r + i) * (w * t) ^ i) (2 * h) := by
  rw [Nat.two_mul h, sm_split, ← sm_add]
  refine sm_congr h fun i hi => ?_
  have e : sLay h rt x ((h + h) * r + h + i) = (x ((h + h) * r + i) - x ((h + h) * r + h + i)) * w ^ i := by
    unfold sLay
    rw [← Nat.two_mul, mod_high hi, if_neg (by omega), show h + i - h = i from by omega, show 2 * h * r + h + i - h = 2 * h * r + i from by omega, hrt i hi]
  rw [e, pw_add, pw_mul, pw_mul, ht, hw, show (h + h) * r + (h + i) = (h + h) * r + h + i from by omega]
  grind

/-- All layers down from blocks of 2^k to blocks of 2^j: the roots of the layer of h are rts h. -/
def sAll (rts : Nat → Nat → Fin z9) (k : Nat) : Nat → (Nat → Fin z9) → (Nat → Fin z9)
  | 0, x => x
  | m + 1, x => sLay (2 ^ (k - 1 - m)) (rts (2 ^ (k - 1 - m))) (sAll rts k m x)

theorem s_eval (rts : Nat → Nat → Fin z9) (ws : Nat → Fin z9) (k : Nat) (hw : ∀ j, j < k → ws j ^ (2 ^ j) = -1) (hrt : ∀ j i, j < k → i < 2 ^ j → rts (2 ^ j) i = ws j ^ i) (m : Nat) (hm : m ≤ k) :
    ∀ r, r < 2 ^ m → ∃ c : Fin z9, ∀ (x : Nat → Fin z9) (t : Fin z9), t ^ 2 ^ (k - m) = 1 → sm (fun i => sAll rts k m x (2 ^ (k - m) * r + i) * t ^ i) (2 ^ (k - m)) = sm (fun i => x i * (c * t) ^ i) (2 ^ k) := by
  induction m with
  | zero =>
    intro r hr
    obtain rfl : r = 0 := by simpa using hr
    refine ⟨1, fun x t _ => ?_⟩
    rw [Nat.sub_zero]
    refine sm_congr _ fun i _ => ?_
    show x (2 ^ k * 0 + i) * t ^ i = _
    rw [show 2 ^ k * 0 + i = i from by omega, show (1 : Fin z9) * t = t from by grind]
  | succ m ih =>
    intro r hr
    obtain ⟨h, hh⟩ : ∃ h, h = 2 ^ (k - (m + 1)) := ⟨_, rfl⟩
    have e1 : 2 ^ (k - m) = 2 * h := by
      rw [hh, show k - m = k - (m + 1) + 1 from by omega, Nat.pow_succ]; omega
    have e2 : 2 ^ (k - 1 - m) = h := by rw [hh]; congr 1; omega
    have hw2 := hw (k - (m + 1)) (by omega)
    rw [← hh] at hw2
    have hrt2 : ∀ i, i < h → rts h i = ws (k - (m + 1)) ^ i := fun i hi => by
      rw [hh]; exact hrt _ i (by omega) (by rw [← hh]; exact hi)
    obtain ⟨c, hc⟩ := ih (by omega) (r / 2) (by rw [Nat.pow_succ] at hr; omega)
    rw [e1] at hc
    rw [← hh]
    have e3 : ∀ x, sAll rts k (m + 1) x = sLay h (rts h) (sAll rts k m x) := fun x => by
      show sLay (2 ^ (k - 1 - m)) (rts (2 ^ (k - 1 - m))) (sAll rts k m x) = _
      rw [e2]
    rcases Nat.mod_two_eq_zero_or_one r with h0 | h1
    · refine ⟨c, fun x t ht => ?_⟩
      rw [e3, ← hc x t (by rw [Nat.two_mul, pw_add, ht]; grind), ← s_low h (r / 2) (rts h) _ t ht]
      refine sm_congr _ fun i _ => ?_
      rw [show h * r = 2 * h * (r / 2) from by rw [Nat.mul_comm 2 h, Nat.mul_assoc]; congr 1; omega]
    · refine ⟨c * ws (k - (m + 1)), fun x t ht => ?_⟩
      have e4 : (c * ws (k - (m + 1)) * t) = c * (ws (k - (m + 1)) * t) := by grind
      rw [e3, e4, ← hc x (ws (k - (m + 1)) * t) (by rw [pw_mul, Nat.two_mul, pw_add, pw_add, ht, hw2]; grind), ← s_high h (r / 2) (rts h) _ t _ ht hw2 hrt2]
      refine sm_congr _ fun i _ => ?_
      rw [show h * r = 2 * h * (r / 2) + h from by rw [Nat.mul_comm 2 h, Nat.mul_assoc, ← Nat.mul_succ]; congr 1; omega]

/-- At the end, each place holds the polynomial's value at a point of its own. -/
theorem s_value (rts : Nat → Nat → Fin z9) (ws : Nat → Fin z9) (k : Nat) (hw : ∀ j, j < k → ws j ^ (2 ^ j) = -1) (hrt : ∀ j i, j < k → i < 2 ^ j → rts (2 ^ j) i = ws j ^ i) :
    ∀ r, r < 2 ^ k → ∃ c : Fin z9, ∀ x : Nat → Fin z9, sAll rts k k x r = sm (fun i => x i * c ^ i) (2 ^ k) := by
  intro r hr
  obtain ⟨c, hc⟩ := s_eval rts ws k hw hrt k (Nat.le_refl _) r hr
  refine ⟨c, fun x => ?_⟩
  have := hc x 1 (pw_one _)
  rw [Nat.sub_self, Nat.pow_zero] at this
  simp only [sm, Nat.one_mul, Nat.add_zero, pw_zero] at this
  rw [show c * 1 = c from by grind] at this
  rw [← this]; grind

theorem s_product (rts : Nat → Nat → Fin z9) (ws : Nat → Fin z9) (k : Nat) (hw : ∀ j, j < k → ws j ^ (2 ^ j) = -1) (hrt : ∀ j i, j < k → i < 2 ^ j → rts (2 ^ j) i = ws j ^ i)
    (x y z : Nat → Fin z9) (hz : ∀ t : Fin z9, sm (fun i => z i * t ^ i) (2 ^ k) = sm (fun i => x i * t ^ i) (2 ^ k) * sm (fun i => y i * t ^ i) (2 ^ k)) :
    ∀ r, r < 2 ^ k → sAll rts k k z r = sAll rts k k x r * sAll rts k k y r := by
  intro r hr
  obtain ⟨c, hc⟩ := s_value rts ws k hw hrt r hr
  rw [hc, hc, hc, hz]

theorem g_s (h : Nat) (rt ru x : Nat → Fin z9) (hh : 0 < h) (hrt : ∀ i, i < h → rt i * ru i = 1) (j : Nat) : gLay h ru (sLay h rt x) j = 2 * x j := by
  unfold gLay
  by_cases hj : j % (2 * h) < h
  · have e : (j + h) % (2 * h) = j % (2 * h) + h := by
      have h1 := Nat.div_add_mod j (2 * h)
      conv => lhs; rw [← h1]
      rw [Nat.add_assoc, Nat.mul_add_mod, Nat.mod_eq_of_lt (by omega)]
    rw [if_pos hj]
    unfold sLay
    rw [if_pos hj, e, if_neg (by omega), show j % (2 * h) + h - h = j % (2 * h) from by omega, show j + h - h = j from by omega]
    have := hrt _ hj
    grind
  · have h2 : j % (2 * h) < 2 * h := Nat.mod_lt _ (by omega)
    have h3 : h ≤ j := Nat.le_trans (by omega) (Nat.mod_le j (2 * h))
    have e : (j - h) % (2 * h) = j % (2 * h) - h := by
      have h1 := Nat.div_add_mod j (2 * h)
      rw [show j - h = 2 * h * (j / (2 * h)) + (j % (2 * h) - h) from by omega, Nat.mul_add_mod, Nat.mod_eq_of_lt (by omega)]
    rw [if_neg hj]
    unfold sLay
    rw [e, if_pos (by omega), if_neg hj, show j - h + h = j from by omega]
    have := hrt (j % (2 * h) - h) (by omega)
    grind
theorem g_mul (h : Nat) (ru : Nat → Fin z9) (c : Fin z9) (x : Nat → Fin z9) (j : Nat) : gLay h ru (fun i => c * x i) j = c * gLay h ru x j := by
  unfold gLay
  split <;> grind

/-- m layers up from blocks of one. -/
def gAll (rus : Nat → Nat → Fin z9) : Nat → (Nat → Fin z9) → (Nat → Fin z9)
  | 0, x => x
  | m + 1, x => gLay (2 ^ m) (rus (2 ^ m)) (gAll rus m x)

omit [NeZero z9] in
theorem gLay_congr (h : Nat) (ru x y : Nat → Fin z9) (e : ∀ j, x j = y j) : gLay h ru x = gLay h ru y := by
  have : x = y := funext e
  rw [this]
theorem g_all (rts rus : Nat → Nat → Fin z9) (k : Nat) (hrt : ∀ j i, j < k → i < 2 ^ j → rts (2 ^ j) i * rus (2 ^ j) i = 1) (x : Nat → Fin z9) (m : Nat) (hm : m ≤ k) :
    ∀ j, gAll rus m (sAll rts k k x) j = 2 ^ m * sAll rts k (k - m) x j := by
  induction m with
  | zero => intro j; rw [pw_zero]; show sAll rts k k x j = 1 * sAll rts k k x j; grind
  | succ m ih =>
    intro j
    show gLay (2 ^ m) (rus (2 ^ m)) (gAll rus m (sAll rts k k x)) j = _
    rw [gLay_congr _ _ _ _ (ih (by omega)), g_mul, show k - m = (k - (m + 1)) + 1 from by omega]
    show 2 ^ m * gLay (2 ^ m) (rus (2 ^ m)) (sLay (2 ^ (k - 1 - (k - (m + 1)))) (rts (2 ^ (k - 1 - (k - (m + 1))))) (sAll rts k (k - (m + 1)) x)) j = _
    rw [show k - 1 - (k - (m + 1)) = m from by omega, g_s _ _ _ _ (Nat.two_pow_pos m) (fun i hi => hrt m i (by omega) hi), pw_succ]
    grind
end Ring
end Go.Proofs.Ytogkfpbapjjgfaa
