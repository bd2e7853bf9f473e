/- Plain algebra: a transform by halves and back over any commu. Plain algebra: products of digit lists by a transform modulo. The contracts of the field modulo 2^64 - 2^32 + 1: reduced, . The contracts of fieldPow and rootsOf. The contract of digitsOf. -/
import Derived.Test.YtcjgilagldbjnaaGreatDoorPkBb15
namespace Go.Proofs.YtcjgilagldbjnaaGreatDoor
section
section Ring
variable {z9 : Nat} [NeZero z9]
def sm (f : Nat → Fin z9) : Nat → Fin z9
 | 0 => 0
 | n + 1 => sm f n + f n
theorem sm_congr {f g : Nat → Fin z9} (n : Nat) (h : ∀ i, i < n → f i = g i) : sm f n = sm g n := by
 induction n with
 | zero => rfl
 | succ n ih => simp only [sm, ih (fun i hi => h i (by omega)), h n (by omega)]
theorem sm_add (f g : Nat → Fin z9) (n : Nat) : sm (fun i => f i + g i) n = sm f n + sm g n := by
 induction n with
 | zero => simp only [sm]; grind
 | succ n ih => simp only [sm, ih]; grind
theorem sm_mul (c : Fin z9) (f : Nat → Fin z9) (n : Nat) : sm (fun i => c * f i) n = c * sm f n := by
 induction n with
 | zero => simp only [sm]; grind
 | succ n ih => simp only [sm, ih]; grind
theorem sm_split (f : Nat → Fin z9) (a b : Nat) : sm f (a + b) = sm f a + sm (fun i => f (a + i)) b := by
 induction b with
 | zero => simp only [sm, Nat.add_zero]; grind
 | succ n ih => rw [← Nat.add_assoc]; simp only [sm, ih]; grind
theorem sm_shift (f : Nat → Fin z9) (n : Nat) : sm f (n + 1) = f 0 + sm (fun i => f (i + 1)) n := by
 rw [Nat.add_comm, sm_split]
 simp only [sm, Nat.add_comm 1]; grind
theorem sm_zero (n : Nat) : sm (fun _ => (0 : Fin z9)) n = 0 := by
 induction n with
 | zero => rfl
 | succ n ih => simp only [sm, ih]; grind
theorem pw_zero (a : Fin z9) : a ^ 0 = 1 := by grind
theorem pw_succ (a : Fin z9) (n : Nat) : a ^ (n + 1) = a ^ n * a := by grind
theorem pw_add (a : Fin z9) (m n : Nat) : a ^ (m + n) = a ^ m * a ^ n := by
 induction n with
 | zero => rw [Nat.add_zero, pw_zero]; grind
 | succ n ih => rw [← Nat.add_assoc, pw_succ, pw_succ, ih]; grind
theorem pw_mul (a b : Fin z9) (n : Nat) : (a * b) ^ n = a ^ n * b ^ n := by
 induction n with
 | zero => rw [pw_zero, pw_zero, pw_zero]; grind
 | succ n ih => rw [pw_succ, pw_succ, pw_succ, ih]; grind
theorem pw_one (n : Nat) : (1 : Fin z9) ^ n = 1 := by
 induction n with
 | zero => rw [pw_zero]
 | succ n ih => rw [pw_succ, ih]; grind
theorem pw_pw (a : Fin z9) (m n : Nat) : a ^ (m * n) = (a ^ m) ^ n := by
 induction n with
 | zero => rw [Nat.mul_zero, pw_zero, pw_zero]
 | succ n ih => rw [Nat.mul_succ, pw_add, ih, pw_succ]
def sLay (h : Nat) (rt : Nat → Fin z9) (x : Nat → Fin z9) : Nat → Fin z9 := fun j =>
 if j % (2 * h) < h then x j + x (j + h) else (x (j - h) - x j) * rt (j % (2 * h) - h)
def gLay (h : Nat) (rt : Nat → Fin z9) (x : Nat → Fin z9) : Nat → Fin z9 := fun j =>
 if j % (2 * h) < h then x j + x (j + h) * rt (j % (2 * h)) else x (j - h) - x j * rt (j % (2 * h) - h)
theorem mod_low {h r i : Nat} (hi : i < h) : (2 * h * r + i) % (2 * h) = i := by
 rw [Nat.mul_add_mod, Nat.mod_eq_of_lt (by omega)]
theorem mod_high {h r i : Nat} (hi : i < h) : (2 * h * r + h + i) % (2 * h) = h + i := by
 rw [Nat.add_assoc, Nat.mul_add_mod, Nat.mod_eq_of_lt (by omega)]
theorem s_low (h r : Nat) (rt x : Nat → Fin z9) (t : Fin z9) (ht : t ^ h = 1) :
  sm (fun i => sLay h rt x (2 * h * r + i) * t ^ i) h = sm (fun i => x (2 * h * r + i) * t ^ i) (2 * h) := by
 rw [Nat.two_mul h, sm_split, ← sm_add]
 refine sm_congr h fun i hi => ?_
 have e : sLay h rt x ((h + h) * r + i) = x ((h + h) * r + i) + x ((h + h) * r + i + h) := by
  unfold sLay
  rw [← Nat.two_mul, mod_low hi, if_pos hi]
 rw [e, pw_add, ht, show (h + h) * r + (h + i) = (h + h) * r + i + h from by omega]
 grind
theorem s_high (h r : Nat) (rt x : Nat → Fin z9) (t w : Fin z9) (ht : t ^ h = 1) (hw : w ^ h = -1) (hrt : ∀ i, i < h → rt i = w ^ i) :
  sm (fun i => sLay h rt x (2 * h * r + h + i) * t ^ i) h = sm (fun i => x (2 * h * r + i) * (w * t) ^ i) (2 * h) := by
 rw [Nat.two_mul h, sm_split, ← sm_add]
 refine sm_congr h fun i hi => ?_
 have e : sLay h rt x ((h + h) * r + h + i) = (x ((h + h) * r + i) - x ((h + h) * r + h + i)) * w ^ i := by
  unfold sLay
  rw [← Nat.two_mul, mod_high hi, if_neg (by omega), show h + i - h = i from by omega, show 2 * h * r + h + i - h = 2 * h * r + i from by omega, hrt i hi]
 rw [e, pw_add, pw_mul, pw_mul, ht, hw, show (h + h) * r + (h + i) = (h + h) * r + h + i from by omega]
 grind
def sAll (rts : Nat → Nat → Fin z9) (k : Nat) : Nat → (Nat → Fin z9) → (Nat → Fin z9)
 | 0, x => x
 | m + 1, x => sLay (2 ^ (k - 1 - m)) (rts (2 ^ (k - 1 - m))) (sAll rts k m x)
theorem s_eval (rts : Nat → Nat → Fin z9) (ws : Nat → Fin z9) (k : Nat) (hw : ∀ j, j < k → ws j ^ (2 ^ j) = -1) (hrt : ∀ j i, j < k → i < 2 ^ j → rts (2 ^ j) i = ws j ^ i) (m : Nat) (hm : m ≤ k) :
  ∀ r, r < 2 ^ m → ∃ c : Fin z9, ∀ (x : Nat → Fin z9) (t : Fin z9), t ^ 2 ^ (k - m) = 1 → sm (fun i => sAll rts k m x (2 ^ (k - m) * r + i) * t ^ i) (2 ^ (k - m)) = sm (fun i => x i * (c * t) ^ i) (2 ^ k) := by
 induction m with
 | zero =>
  intro r hr
  obtain rfl : r = 0 := by simpa using hr
  refine ⟨1, fun x t _ => ?_⟩
  rw [Nat.sub_zero]
  refine sm_congr _ fun i _ => ?_
  show x (2 ^ k * 0 + i) * t ^ i = _
  rw [show 2 ^ k * 0 + i = i from by omega, show (1 : Fin z9) * t = t from by grind]
 | succ m ih =>
  intro r hr
  obtain ⟨h, hh⟩ : ∃ h, h = 2 ^ (k - (m + 1)) := ⟨_, rfl⟩
  have e1 : 2 ^ (k - m) = 2 * h := by
   rw [hh, show k - m = k - (m + 1) + 1 from by omega, Nat.pow_succ]; omega
  have e2 : 2 ^ (k - 1 - m) = h := by rw [hh]; congr 1; omega
  have hw2 := hw (k - (m + 1)) (by omega)
  rw [← hh] at hw2
  have hrt2 : ∀ i, i < h → rts h i = ws (k - (m + 1)) ^ i := fun i hi => by
   rw [hh]; exact hrt _ i (by omega) (by rw [← hh]; exact hi)
  obtain ⟨c, hc⟩ := ih (by omega) (r / 2) (by rw [Nat.pow_succ] at hr; omega)
  rw [e1] at hc
  rw [← hh]
  have e3 : ∀ x, sAll rts k (m + 1) x = sLay h (rts h) (sAll rts k m x) := fun x => by
   show sLay (2 ^ (k - 1 - m)) (rts (2 ^ (k - 1 - m))) (sAll rts k m x) = _
   rw [e2]
  rcases Nat.mod_two_eq_zero_or_one r with h0 | h1
  ·refine ⟨c, fun x t ht => ?_⟩
   rw [e3, ← hc x t (by rw [Nat.two_mul, pw_add, ht]; grind), ← s_low h (r / 2) (rts h) _ t ht]
   refine sm_congr _ fun i _ => ?_
   rw [show h * r = 2 * h * (r / 2) from by rw [Nat.mul_comm 2 h, Nat.mul_assoc]; congr 1; omega]
  ·refine ⟨c * ws (k - (m + 1)), fun x t ht => ?_⟩
   have e4 : (c * ws (k - (m + 1)) * t) = c * (ws (k - (m + 1)) * t) := by grind
   rw [e3, e4, ← hc x (ws (k - (m + 1)) * t) (by rw [pw_mul, Nat.two_mul, pw_add, pw_add, ht, hw2]; grind), ← s_high h (r / 2) (rts h) _ t _ ht hw2 hrt2]
   refine sm_congr _ fun i _ => ?_
   rw [show h * r = 2 * h * (r / 2) + h from by rw [Nat.mul_comm 2 h, Nat.mul_assoc, ← Nat.mul_succ]; congr 1; omega]
theorem s_value (rts : Nat → Nat → Fin z9) (ws : Nat → Fin z9) (k : Nat) (hw : ∀ j, j < k → ws j ^ (2 ^ j) = -1) (hrt : ∀ j i, j < k → i < 2 ^ j → rts (2 ^ j) i = ws j ^ i) :
  ∀ r, r < 2 ^ k → ∃ c : Fin z9, ∀ x : Nat → Fin z9, sAll rts k k x r = sm (fun i => x i * c ^ i) (2 ^ k) := by
 intro r hr
 obtain ⟨c, hc⟩ := s_eval rts ws k hw hrt k (Nat.le_refl _) r hr
 refine ⟨c, fun x => ?_⟩
 have := hc x 1 (pw_one _)
 rw [Nat.sub_self, Nat.pow_zero] at this
 simp only [sm, Nat.one_mul, Nat.add_zero, pw_zero] at this
 rw [show c * 1 = c from by grind] at this
 rw [← this]; grind
theorem s_product (rts : Nat → Nat → Fin z9) (ws : Nat → Fin z9) (k : Nat) (hw : ∀ j, j < k → ws j ^ (2 ^ j) = -1) (hrt : ∀ j i, j < k → i < 2 ^ j → rts (2 ^ j) i = ws j ^ i)
  (x y z : Nat → Fin z9) (hz : ∀ t : Fin z9, sm (fun i => z i * t ^ i) (2 ^ k) = sm (fun i => x i * t ^ i) (2 ^ k) * sm (fun i => y i * t ^ i) (2 ^ k)) :
  ∀ r, r < 2 ^ k → sAll rts k k z r = sAll rts k k x r * sAll rts k k y r := by
 intro r hr
 obtain ⟨c, hc⟩ := s_value rts ws k hw hrt r hr
 rw [hc, hc, hc, hz]
theorem g_s (h : Nat) (rt ru x : Nat → Fin z9) (hh : 0 < h) (hrt : ∀ i, i < h → rt i * ru i = 1) (j : Nat) : gLay h ru (sLay h rt x) j = 2 * x j := by
 unfold gLay
 by_cases hj : j % (2 * h) < h
 ·have e : (j + h) % (2 * h) = j % (2 * h) + h := by
   have h1 := Nat.div_add_mod j (2 * h)
   conv => lhs; rw [← h1]
   rw [Nat.add_assoc, Nat.mul_add_mod, Nat.mod_eq_of_lt (by omega)]
  rw [if_pos hj]
  unfold sLay
  rw [if_pos hj, e, if_neg (by omega), show j % (2 * h) + h - h = j % (2 * h) from by omega, show j + h - h = j from by omega]
  have := hrt _ hj
  grind
 ·have h2 : j % (2 * h) < 2 * h := Nat.mod_lt _ (by omega)
  have h3 : h ≤ j := Nat.le_trans (by omega) (Nat.mod_le j (2 * h))
  have e : (j - h) % (2 * h) = j % (2 * h) - h := by
   have h1 := Nat.div_add_mod j (2 * h)
   rw [show j - h = 2 * h * (j / (2 * h)) + (j % (2 * h) - h) from by omega, Nat.mul_add_mod, Nat.mod_eq_of_lt (by omega)]
  rw [if_neg hj]
  unfold sLay
  rw [e, if_pos (by omega), if_neg hj, show j - h + h = j from by omega]
  have := hrt (j % (2 * h) - h) (by omega)
  grind
theorem g_mul (h : Nat) (ru : Nat → Fin z9) (c : Fin z9) (x : Nat → Fin z9) (j : Nat) : gLay h ru (fun i => c * x i) j = c * gLay h ru x j := by
 unfold gLay
 split <;> grind
def gAll (rus : Nat → Nat → Fin z9) : Nat → (Nat → Fin z9) → (Nat → Fin z9)
 | 0, x => x
 | m + 1, x => gLay (2 ^ m) (rus (2 ^ m)) (gAll rus m x)
omit [NeZero z9] in
theorem gLay_congr (h : Nat) (ru x y : Nat → Fin z9) (e : ∀ j, x j = y j) : gLay h ru x = gLay h ru y := by
 have : x = y := funext e
 rw [this]
theorem g_all (rts rus : Nat → Nat → Fin z9) (k : Nat) (hrt : ∀ j i, j < k → i < 2 ^ j → rts (2 ^ j) i * rus (2 ^ j) i = 1) (x : Nat → Fin z9) (m : Nat) (hm : m ≤ k) :
  ∀ j, gAll rus m (sAll rts k k x) j = 2 ^ m * sAll rts k (k - m) x j := by
 induction m with
 | zero => intro j; rw [pw_zero]; show sAll rts k k x j = 1 * sAll rts k k x j; grind
 | succ m ih =>
  intro j
  show gLay (2 ^ m) (rus (2 ^ m)) (gAll rus m (sAll rts k k x)) j = _
  rw [gLay_congr _ _ _ _ (ih (by omega)), g_mul, show k - m = (k - (m + 1)) + 1 from by omega]
  show 2 ^ m * gLay (2 ^ m) (rus (2 ^ m)) (sLay (2 ^ (k - 1 - (k - (m + 1)))) (rts (2 ^ (k - 1 - (k - (m + 1))))) (sAll rts k (k - (m + 1)) x)) j = _
  rw [show k - 1 - (k - (m + 1)) = m from by omega, g_s _ _ _ _ (Nat.two_pow_pos m) (fun i hi => hrt m i (by omega) hi), pw_succ]
  grind
end Ring
end
section
section Poly
variable {z9 : Nat} [NeZero z9]
def addP : List Nat → List Nat → List Nat
 | [], ys => ys
 | xs, [] => xs
 | x :: xs, y :: ys => (x + y) :: addP xs ys
def mulL : List Nat → List Nat → List Nat
 | [], ys => List.replicate ys.length 0
 | x :: xs, ys => addP (ys.map (x * ·)) (0 :: mulL xs ys)
theorem addP_length (xs ys : List Nat) : (addP xs ys).length = max xs.length ys.length := by
 induction xs generalizing ys with
 | nil => simp [addP]
 | cons x xs ih => cases ys with
  | nil => simp [addP]
  | cons y ys => simp only [addP, List.length_cons, ih]; omega
theorem mulL_length (xs ys : List Nat) : (mulL xs ys).length = xs.length + ys.length := by
 induction xs with
 | nil => simp [mulL]
 | cons x xs ih => simp only [mulL, addP_length, List.length_map, List.length_cons, ih]; omega
theorem addP_le {xs ys : List Nat} {A B : Nat} (hx : ∀ v ∈ xs, v ≤ A) (hy : ∀ v ∈ ys, v ≤ B) : ∀ v ∈ addP xs ys, v ≤ A + B := by
 induction xs generalizing ys with
 | nil => intro v hv; have := hy v hv; omega
 | cons x xs ih => cases ys with
  | nil => intro v hv; have := hx v hv; omega
  | cons y ys =>
   intro v hv
   rcases List.mem_cons.1 hv with rfl | hv
   ·have := hx x (List.mem_cons_self); have := hy y (List.mem_cons_self); omega
   ·exact ih (fun v hv => hx v (List.mem_cons_of_mem _ hv)) (fun v hv => hy v (List.mem_cons_of_mem _ hv)) v hv
theorem mulL_le {xs ys : List Nat} {M : Nat} (hx : ∀ v ∈ xs, v ≤ M) (hy : ∀ v ∈ ys, v ≤ M) : ∀ v ∈ mulL xs ys, v ≤ xs.length * (M * M) := by
 induction xs with
 | nil => intro v hv; rw [(List.mem_replicate.1 hv).2]; omega
 | cons x xs ih =>
  intro v hv
  have h1 := addP_le (A := M * M) (B := xs.length * (M * M)) (xs := ys.map (x * ·)) (ys := 0 :: mulL xs ys) (fun v hv => by
   obtain ⟨y, hy1, rfl⟩ := List.mem_map.1 hv
   exact Nat.mul_le_mul (hx x List.mem_cons_self) (hy y hy1)) (fun v hv => by
   rcases List.mem_cons.1 hv with rfl | hv
   ·omega
   ·exact ih (fun v hv => hx v (List.mem_cons_of_mem _ hv)) v hv) v hv
  rw [List.length_cons, Nat.succ_mul]; omega
def evL (f : Nat → Fin z9) (t : Fin z9) : List Nat → Fin z9
 | [] => 0
 | x :: xs => f x + t * evL f t xs
theorem evL_addP (f : Nat → Fin z9) (hf : ∀ a b, f (a + b) = f a + f b) (t : Fin z9) (xs ys : List Nat) : evL f t (addP xs ys) = evL f t xs + evL f t ys := by
 induction xs generalizing ys with
 | nil => simp only [addP, evL]; grind
 | cons x xs ih => cases ys with
  | nil => simp only [addP, evL]; grind
  | cons y ys => simp only [addP, evL, ih, hf]; grind
theorem evL_map (f : Nat → Fin z9) (hm : ∀ a b, f (a * b) = f a * f b) (t : Fin z9) (x : Nat) (ys : List Nat) : evL f t (ys.map (x * ·)) = f x * evL f t ys := by
 induction ys with
 | nil => simp only [List.map_nil, evL]; grind
 | cons y ys ih => simp only [List.map_cons, evL, ih, hm]; grind
theorem evL_zeros (f : Nat → Fin z9) (h0 : f 0 = 0) (t : Fin z9) (n : Nat) : evL f t (List.replicate n 0) = 0 := by
 induction n with
 | zero => rfl
 | succ n ih => simp only [List.replicate_succ, evL, ih, h0]; grind
theorem evL_mulL (f : Nat → Fin z9) (h0 : f 0 = 0) (hf : ∀ a b, f (a + b) = f a + f b) (hm : ∀ a b, f (a * b) = f a * f b) (t : Fin z9) (xs ys : List Nat) : evL f t (mulL xs ys) = evL f t xs * evL f t ys := by
 induction xs with
 | nil => simp only [mulL, evL, evL_zeros f h0]; grind
 | cons x xs ih => simp only [mulL, evL, evL_addP f hf, evL_map f hm, ih, h0]; grind
theorem evL_sm (f : Nat → Fin z9) (h0 : f 0 = 0) (t : Fin z9) (xs : List Nat) (n : Nat) (hn : xs.length ≤ n) : sm (fun i => f (xs.getD i 0) * t ^ i) n = evL f t xs := by
 induction xs generalizing n with
 | nil =>
  rw [sm_congr (g := fun _ => (0 : Fin z9)) n (fun i _ => by simp [h0]; grind), sm_zero]; rfl
 | cons x xs ih =>
  cases n with
  | zero => simp at hn
  | succ n =>
   rw [sm_shift]
   have := ih n (by simpa using hn)
   simp only [List.getD_cons_zero, List.getD_cons_succ, evL]
   rw [← this, ← sm_mul, pw_zero]
   have e : sm (fun i => f (xs.getD i 0) * t ^ (i + 1)) n = sm (fun i => t * (f (xs.getD i 0) * t ^ i)) n := sm_congr n fun i _ => by rw [pw_succ]; grind
   rw [e]; grind
end Poly
abbrev FP := Fin 18446744069414584321
def ph (a : Nat) : FP := Fin.ofNat _ a
theorem ph_val (a : Nat) : (ph a).val = a % 18446744069414584321 := rfl
theorem ph_add (a b : Nat) : ph (a + b) = ph a + ph b := by apply Fin.ext; simp [ph, Fin.ofNat, Fin.add_def]
theorem ph_mul (a b : Nat) : ph (a * b) = ph a * ph b := by apply Fin.ext; simp [ph, Fin.ofNat, Fin.mul_def, Nat.mul_mod]
theorem ph_mod (a : Nat) : ph (a % 18446744069414584321) = ph a := by apply Fin.ext; simp [ph, Fin.ofNat]
theorem ph_zero : ph 0 = 0 := rfl
theorem ph_pow (a n : Nat) : ph (a ^ n) = ph a ^ n := by
 induction n with
 | zero => rw [pw_zero]; rfl
 | succ n ih => rw [Nat.pow_succ, ph_mul, ih, pw_succ]
theorem ph_inj {a b : Nat} (ha : a < 18446744069414584321) (hb : b < 18446744069414584321) (h : ph a = ph b) : a = b := by
 have := congrArg Fin.val h
 rw [ph_val, ph_val, Nat.mod_eq_of_lt ha, Nat.mod_eq_of_lt hb] at this
 exact this
theorem ph_of_mod {a b : Nat} (h : a % 18446744069414584321 = b % 18446744069414584321) : ph a = ph b := by rw [← ph_mod, h, ph_mod]
def pm (p : Nat) : Nat → Nat → Nat → Nat
 | 0, _, _ => 1
 | fuel + 1, a, e => if e = 0 then 1 else if e % 2 = 1 then a * pm p fuel (a * a % p) (e / 2) % p else pm p fuel (a * a % p) (e / 2)
theorem pm_eq (p : Nat) (fuel a e : Nat) (h : e < 2 ^ fuel) : pm p fuel a e % p = a ^ e % p := by
 induction fuel generalizing a e with
 | zero => obtain rfl : e = 0 := by simpa using h
           rfl
 | succ fuel ih =>
  simp only [pm]
  have h2 := ih (a * a % p) (e / 2) (by rw [Nat.pow_succ] at h; omega)
  have h3 : (a * a % p) ^ (e / 2) % p = a ^ (2 * (e / 2)) % p := by
   rw [← Nat.pow_mod, Nat.pow_mul, Nat.pow_two]
  split
  ·rename_i h0; rw [h0]; rfl
  ·split
   ·rename_i h1
    have e2 : e = 2 * (e / 2) + 1 := by omega
    conv => rhs; rw [e2, Nat.pow_succ, Nat.mul_mod, ← h3, ← h2]
    rw [Nat.mul_comm, Nat.mul_mod, Nat.mod_mod]
   ·have e2 : e = 2 * (e / 2) := by omega
    conv => rhs; rw [e2, ← h3, ← h2]
theorem seven_half : (7 : Nat) ^ 9223372034707292160 % 18446744069414584321 = 18446744069414584320 := by
 rw [← pm_eq 18446744069414584321 64 7 9223372034707292160 (by decide)]
 decide +kernel
theorem two_192 : (2 : Nat) ^ 192 % 18446744069414584321 = 1 := by decide +kernel
theorem ph_seven : ph 7 ^ 9223372034707292160 = -1 := by
 rw [← ph_pow]
 apply Fin.ext
 rw [ph_val, seven_half]; rfl
section Final
variable {z9 : Nat} [NeZero z9]
theorem in_block {k m j : Nat} (hm : m < k) (hj : j < 2 ^ k) (h : j % (2 * 2 ^ m) < 2 ^ m) : j + 2 ^ m < 2 ^ k := by
 obtain ⟨q, hq⟩ : ∃ q, 2 ^ k = 2 * 2 ^ m * q := ⟨2 ^ (k - (m + 1)), by
  rw [← Nat.pow_succ', ← Nat.pow_add]; congr 1; omega⟩
 have h1 := Nat.div_add_mod j (2 * 2 ^ m)
 have h2 : j / (2 * 2 ^ m) < q := by
  rw [Nat.div_lt_iff_lt_mul (by have := Nat.two_pow_pos m; omega), Nat.mul_comm, ← hq]; exact hj
 have h3 : 2 * 2 ^ m * (j / (2 * 2 ^ m) + 1) ≤ 2 * 2 ^ m * q := Nat.mul_le_mul_left _ h2
 rw [← hq, Nat.mul_add] at h3
 omega
omit [NeZero z9] in
theorem gLay_local {k m : Nat} (hm : m < k) (rt x y : Nat → Fin z9) (h : ∀ j, j < 2 ^ k → x j = y j) : ∀ j, j < 2 ^ k → gLay (2 ^ m) rt x j = gLay (2 ^ m) rt y j := by
 intro j hj
 unfold gLay
 split
 ·rename_i hl
  rw [h j hj, h _ (in_block hm hj hl)]
 ·rw [h j hj, h (j - 2 ^ m) (Nat.lt_of_le_of_lt (Nat.sub_le _ _) hj)]
omit [NeZero z9] in
theorem gAll_local {k : Nat} (rus : Nat → Nat → Fin z9) (x y : Nat → Fin z9) (h : ∀ j, j < 2 ^ k → x j = y j) (m : Nat) (hm : m ≤ k) : ∀ j, j < 2 ^ k → gAll rus m x j = gAll rus m y j := by
 induction m with
 | zero => exact h
 | succ m ih => exact gLay_local (by omega) _ _ _ (ih (by omega))
end Final
def rootE (k : Nat) : Nat := 18446744069414584320 / 2 ^ k
theorem rootE_mul {k : Nat} (hk : k ≤ 32) : rootE k * 2 ^ k = 18446744069414584320 := by
 unfold rootE
 refine Nat.div_mul_cancel ⟨2 ^ (32 - k) * 4294967295, ?_⟩
 rw [← Nat.mul_assoc, ← Nat.pow_add, show k + (32 - k) = 32 from by omega]
theorem root_half {k : Nat} (hk : k ≤ 32) (h0 : 1 ≤ k) : (ph 7 ^ rootE k) ^ 2 ^ (k - 1) = (-1 : FP) := by
 rw [← pw_pw, ← ph_seven]
 congr 1
 have h := rootE_mul hk
 rw [show 2 ^ k = 2 ^ (k - 1) * 2 from by rw [← Nat.pow_succ]; congr 1; omega, ← Nat.mul_assoc] at h
 omega
theorem root_inv {k : Nat} : ph 7 ^ rootE k * ph 7 ^ (18446744069414584320 - rootE k) = (1 : FP) := by
 have h : rootE k ≤ 18446744069414584320 := Nat.div_le_self _ _
 rw [← pw_add, show rootE k + (18446744069414584320 - rootE k) = 9223372034707292160 + 9223372034707292160 from by omega, pw_add, ph_seven]
 grind
theorem scale_inv (k e : Nat) (he : e + 1 = 18446744069414584320) : (2 : FP) ^ k * ph ((2 ^ k) ^ e % 18446744069414584321) = 1 := by
 rw [ph_mod, ph_pow, ph_pow, show ph 2 = 2 from rfl, show ((2 : FP) ^ k) * (2 ^ k) ^ e = (2 ^ k) ^ (e + 1) from by rw [pw_succ]; grind, he, ← pw_pw, show k * 18446744069414584320 = 192 * (k * 96076792028200960) from by omega, pw_pw]
 have h : (2 : FP) ^ 192 = 1 := by
  rw [show (2 : FP) = ph 2 from rfl, ← ph_pow]
  apply Fin.ext
  rw [ph_val, two_192]; rfl
 rw [h, pw_one]
def fl (xs : List Nat) : Nat → FP := fun i => ph (xs.getD i 0)
def rtsOf (w : FP) (k : Nat) : Nat → Nat → FP := fun h i => w ^ (i * (2 ^ (k - 1) / h))
theorem half_div {k j : Nat} (hj : j < k) : 2 ^ (k - 1) / 2 ^ j = 2 ^ (k - 1 - j) := Nat.pow_div (by omega) (by omega)
theorem ntt_out (k e0 : Nat) (he0 : e0 + 1 = 18446744069414584320) (h0 : 1 ≤ k) (hk : k ≤ 32) (xs ys : List Nat) (M : Nat) (hx : ∀ v ∈ xs, v ≤ M) (hy : ∀ v ∈ ys, v ≤ M) (hl : xs.length + ys.length ≤ 2 ^ k) (hM : xs.length * (M * M) < 18446744069414584321)
  (V : Nat → FP) (hV : ∀ j, j < 2 ^ k → V j = sAll (rtsOf (ph 7 ^ rootE k) k) k k (fl xs) j * sAll (rtsOf (ph 7 ^ rootE k) k) k k (fl ys) j)
  (u : Nat → Nat) (hu : ∀ j, j < 2 ^ k → ph (u j) = gAll (rtsOf (ph 7 ^ (18446744069414584320 - rootE k)) k) k V j) :
  ∀ j, j < 2 ^ k → u j * ((2 ^ k) ^ e0 % 18446744069414584321) % 18446744069414584321 = (mulL xs ys).getD j 0 := by
 intro j hj
 have hw : ∀ j, j < k → ((ph 7 ^ rootE k) ^ 2 ^ (k - 1 - j)) ^ 2 ^ j = (-1 : FP) := fun j hj => by
  rw [← pw_pw, ← Nat.pow_add, show k - 1 - j + j = k - 1 from by omega]; exact root_half hk h0
 have hrt : ∀ j i, j < k → i < 2 ^ j → rtsOf (ph 7 ^ rootE k) k (2 ^ j) i = ((ph 7 ^ rootE k) ^ 2 ^ (k - 1 - j)) ^ i := fun j i hj _ => by
  unfold rtsOf
  rw [half_div hj, Nat.mul_comm, pw_pw]
 have hru : ∀ j i, j < k → i < 2 ^ j → rtsOf (ph 7 ^ rootE k) k (2 ^ j) i * rtsOf (ph 7 ^ (18446744069414584320 - rootE k)) k (2 ^ j) i = 1 := fun j i hj _ => by
  unfold rtsOf
  rw [← pw_mul, root_inv, pw_one]
 have hz : ∀ t : FP, sm (fun i => fl (mulL xs ys) i * t ^ i) (2 ^ k) = sm (fun i => fl xs i * t ^ i) (2 ^ k) * sm (fun i => fl ys i * t ^ i) (2 ^ k) := fun t => by
  unfold fl
  rw [evL_sm ph ph_zero t _ _ (by rw [mulL_length]; exact hl), evL_sm ph ph_zero t _ _ (by omega), evL_sm ph ph_zero t _ _ (by omega), evL_mulL ph ph_zero ph_add ph_mul]
 have hs := s_product (rtsOf (ph 7 ^ rootE k) k) (fun j => (ph 7 ^ rootE k) ^ 2 ^ (k - 1 - j)) k hw hrt (fl xs) (fl ys) (fl (mulL xs ys)) hz
 have hg := g_all (rtsOf (ph 7 ^ rootE k) k) (rtsOf (ph 7 ^ (18446744069414584320 - rootE k)) k) k hru (fl (mulL xs ys)) k (Nat.le_refl _) j
 have e : gAll (rtsOf (ph 7 ^ (18446744069414584320 - rootE k)) k) k V j = 2 ^ k * fl (mulL xs ys) j := by
  rw [gAll_local (k := k) _ _ (sAll (rtsOf (ph 7 ^ rootE k) k) k k (fl (mulL xs ys))) (fun j hj => by rw [hV j hj, hs j hj]) k (Nat.le_refl _) j hj, hg, Nat.sub_self]
  rfl
 refine ph_inj (Nat.mod_lt _ (by decide)) ?_ ?_
 ·rw [List.getD_eq_getElem?_getD]
  by_cases hlt : j < (mulL xs ys).length
  ·rw [List.getElem?_eq_getElem hlt]
   exact Nat.lt_of_le_of_lt (mulL_le hx hy _ (List.getElem_mem hlt)) hM
  ·rw [List.getElem?_eq_none (by omega)]; decide
 ·rw [ph_mod, ph_mul, hu j hj, e]
  have := scale_inv k e0 he0
  unfold fl
  grind
end
section
open Go.RowKit
def redN (a : Nat) : Nat := if 18446744069414584321 ≤ a then a - 18446744069414584321 else a
set_option maxHeartbeats 400000 in
theorem reduced_any (a : Nat) (ha : a < 18446744073709551616) (w : World) : Calls Tryz.prog 109 #[.int .u64 (a : Int)] w fun e w' => e = .returned (.int .u64 (redN a : Int)) ∧ w = w' := by
 by_cases h : 18446744069414584321 ≤ a
 ·have t1 : decide ((18446744069414584321 : Int) ≤ (a : Int)) = true := by simp; omega
  obtain ⟨s, hs⟩ : ∃ s, s = a - 18446744069414584321 := ⟨_, rfl⟩
  have e1 : (a : Int) - 18446744069414584321 = (s : Int) := by omega
  have hr : redN a = s := by unfold redN; rw [if_pos h, hs]
  rw [hr]
  have hb : s < 18446744073709551616 := by omega
  clear hs hr
  go_enter Tryz.func109, Tryz.ntmps109
  go_wp2
  go_ret
  exact ⟨rfl, rfl⟩
 ·have t1 : decide ((18446744069414584321 : Int) ≤ (a : Int)) = false := by simp; omega
  have hr : redN a = a := by unfold redN; rw [if_neg h]
  rw [hr]
  clear hr
  go_enter Tryz.func109, Tryz.ntmps109
  go_wp2
  go_ret
  exact ⟨rfl, rfl⟩
set_option maxHeartbeats 400000 in
theorem fieldAdd_any (a b : Nat) (ha : a < 18446744069414584321) (hb : b < 18446744069414584321) (w : World) : Calls Tryz.prog 107 #[.int .u64 (a : Int), .int .u64 (b : Int)] w fun e w' => e = .returned (.int .u64 (((a + b) % 18446744069414584321 : Nat) : Int)) ∧ w = w' := by
 have a1 := fun W => add64_run0 a b W
 obtain ⟨l, hl⟩ : ∃ l, l = (a + b) % 18446744073709551616 := ⟨_, rfl⟩
 obtain ⟨o, ho⟩ : ∃ o, o = (a + b) / 18446744073709551616 := ⟨_, rfl⟩
 rw [← hl, ← ho] at a1
 obtain ⟨s, hs⟩ : ∃ s, s = l + o * 4294967295 := ⟨_, rfl⟩
 have e1 : (l : Int) + (o : Int) * 4294967295 = (s : Int) := by omega
 have ho1 : o ≤ 1 := by omega
 have hsb : s < 18446744073709551616 := by omega
 have hr : redN s = (a + b) % 18446744069414584321 := by unfold redN; split <;> omega
 rw [← hr]
 have hrd := fun W => reduced_any s hsb W
 obtain ⟨r, hr2⟩ : ∃ r, r = redN s := ⟨_, rfl⟩
 rw [← hr2] at hrd ⊢
 have Hrd := hi9 hrd
 clear hl ho hs hr hr2 hrd
 go_enter Tryz.func107, Tryz.ntmps107
 go_wp2_with (first
  | (simp only [])
  | (go_at_call 109; (with_reducible refine (Hrd.out _).mono ?_); rintro e w' ⟨rfl, rfl⟩))
 go_ret
 exact ⟨rfl, rfl⟩
set_option maxHeartbeats 400000 in
theorem fieldSub_any (a b : Nat) (ha : a < 18446744069414584321) (hb : b < 18446744069414584321) (w : World) : Calls Tryz.prog 108 #[.int .u64 (a : Int), .int .u64 (b : Int)] w fun e w' => e = .returned (.int .u64 (((a + 18446744069414584321 - b) % 18446744069414584321 : Nat) : Int)) ∧ w = w' := by
 have a1 := fun W => sub64_run0 a b W
 obtain ⟨l, hl⟩ := nameIt ((a + 18446744073709551616 - b) % 18446744073709551616)
 obtain ⟨o, ho⟩ : ∃ o, o = if a < b then 1 else 0 := ⟨_, rfl⟩
 rw [← hl, ← ho] at a1
 have ho1 : o ≤ 1 := by rw [ho]; split <;> omega
 obtain ⟨s, hs⟩ := nameIt ((a + 18446744069414584321 - b) % 18446744069414584321)
 have e1 : (l : Int) - (o : Int) * 4294967295 = (s : Int) := by
  rw [hl, ho, hs]; split <;> omega
 rw [← hs]
 have hsb : s < 18446744073709551616 := by omega
 clear hl ho hs
 go_enter Tryz.func108, Tryz.ntmps108
 go_wp2_with (simp only [a1])
 go_ret
 exact ⟨rfl, rfl⟩
theorem field_mul_eq (x hi lo l1 o1 r m q l2 o2 : Nat) (hx : x = hi * 18446744073709551616 + lo) (hh : hi ≤ 18446744073709551614) (hlo : lo < 18446744073709551616)
  (h1 : l1 = (lo + 18446744073709551616 - hi / 4294967296) % 18446744073709551616) (h2 : o1 = if lo < hi / 4294967296 then 1 else 0) (hr : r + o1 * 4294967295 = l1) (hm : m = hi % 4294967296) (hq : q = m * 4294967295) (h3 : l2 = (r + q) % 18446744073709551616) (h4 : o2 = (r + q) / 18446744073709551616) :
  redN (l2 + o2 * 4294967295) = x % 18446744069414584321 := by
 have e : l2 + o2 * 4294967295 + 18446744069414584321 * (o2 + hi / 4294967296 * 4294967297 + m - (if lo < hi / 4294967296 then 0 else 0)) + 18446744069414584321 * 0 = x + 18446744069414584321 * (if lo < hi / 4294967296 then 1 else 0) := by
  rw [hx]
  split at h2 <;> split <;> omega
 unfold redN
 split at e <;> split <;> omega
set_option maxHeartbeats 800000 in
theorem fieldMul_any (a b : Nat) (ha : a < 18446744073709551616) (hb : b < 18446744073709551616) (w : World) : Calls Tryz.prog 100 #[.int .u64 (a : Int), .int .u64 (b : Int)] w fun e w' => e = .returned (.int .u64 ((a * b % 18446744069414584321 : Nat) : Int)) ∧ w = w' := by
 have hpb : a * b ≤ 18446744073709551615 * 18446744073709551615 := Nat.mul_le_mul (by omega) (by omega)
 have hmul := fun W => mul64_any a b W ha hb
 obtain ⟨hi, hhi⟩ : ∃ hi, hi = a * b / 18446744073709551616 := ⟨_, rfl⟩
 obtain ⟨lo, hlo⟩ : ∃ lo, lo = a * b % 18446744073709551616 := ⟨_, rfl⟩
 have e0 : a * b = hi * 18446744073709551616 + lo := by rw [hhi, hlo]; omega
 have hib : hi ≤ 18446744073709551614 := by omega
 have hlb : lo < 18446744073709551616 := by rw [hlo]; omega
 rw [← hhi, ← hlo] at hmul
 obtain ⟨t, ht⟩ : ∃ t, t = hi / 4294967296 := ⟨_, rfl⟩
 have s1 := fun W => sub64_run0 lo t W
 obtain ⟨l1, hl1⟩ := nameIt ((lo + 18446744073709551616 - t) % 18446744073709551616)
 obtain ⟨o1, ho1⟩ : ∃ o1, o1 = if lo < t then 1 else 0 := ⟨_, rfl⟩
 rw [← hl1, ← ho1] at s1
 have ho1b : o1 ≤ 1 := by rw [ho1]; split <;> omega
 obtain ⟨r, hr⟩ : ∃ r, r = l1 - o1 * 4294967295 := ⟨_, rfl⟩
 have hr2 : r + o1 * 4294967295 = l1 := by
  rw [hr]
  have : o1 * 4294967295 ≤ l1 := by
   by_cases h : lo < t
   ·rw [if_pos h] at ho1; omega
   ·rw [if_neg h] at ho1; omega
  omega
 have e1 : (l1 : Int) - (o1 : Int) * 4294967295 = (r : Int) := by omega
 obtain ⟨m, hm⟩ : ∃ m, m = hi % 4294967296 := ⟨_, rfl⟩
 have hmb : m < 4294967296 := by omega
 obtain ⟨q, hq⟩ : ∃ q, q = m * 4294967295 := ⟨_, rfl⟩
 have e2 : (m : Int) * 4294967296 - (m : Int) = (q : Int) := by omega
 have hqb : q < 18446744073709551616 := by omega
 have hrb : r < 18446744073709551616 := by omega
 have a1 := fun W => add64_run0 r q W
 obtain ⟨l2, hl2⟩ : ∃ l2, l2 = (r + q) % 18446744073709551616 := ⟨_, rfl⟩
 obtain ⟨o2, ho2⟩ : ∃ o2, o2 = (r + q) / 18446744073709551616 := ⟨_, rfl⟩
 rw [← hl2, ← ho2] at a1
 have ho2b : o2 ≤ 1 := by omega
 obtain ⟨s, hs⟩ : ∃ s, s = l2 + o2 * 4294967295 := ⟨_, rfl⟩
 have e3 : (l2 : Int) + (o2 : Int) * 4294967295 = (s : Int) := by omega
 have hsb : s < 18446744073709551616 := by omega
 have hfin : redN s = a * b % 18446744069414584321 := by
  rw [hs]
  exact field_mul_eq (a * b) hi lo l1 o1 r m q l2 o2 e0 hib hlb (by rw [hl1, ht]) (by rw [ho1, ht]) hr2 hm hq hl2 ho2
 rw [← hfin]
 have hrd := fun W => reduced_any s hsb W
 obtain ⟨z, hz⟩ : ∃ z, z = redN s := ⟨_, rfl⟩
 rw [← hz] at hrd ⊢
 have Hrd := hi9 hrd
 have Hmul := hi9 hmul
 have e4 : (hi : Int) / 4294967296 = (t : Int) := by omega
 have e5 : bits BinOp.and IntKind.u64 (hi : Int) 4294967295 = (m : Int) := by
  have h := u64_and_nat hi 4294967295 (by omega) (by omega)
  have h2 : hi &&& 4294967295 = hi % 4294967296 := Nat.and_two_pow_sub_one_eq_mod hi 32
  rw [h2, ← hm] at h
  exact h
 have e6 : (hi : Int) % 4294967296 = (m : Int) := by omega
 clear hfin hz hrd hmul hs hl2 ho2 hq hm hr hr2 hl1 ho1 ht hhi hlo e0 hpb
 go_enter Tryz.func100, Tryz.ntmps100
 go_wp2_with (first
  | (go_at_call 66; (with_reducible refine (Hmul.out _).mono ?_); rintro e w' ⟨rfl, rfl⟩)
  | (simp only [])
  | (simp only [a1])
  | (go_at_call 109; (with_reducible refine (Hrd.out _).mono ?_); rintro e w' ⟨rfl, rfl⟩))
 go_ret
 exact ⟨rfl, rfl⟩
end
section
open Go.RowKit
theorem pstep_odd (p o x j : Nat) : (o * x % p) * (x * x % p) ^ j % p = o * x ^ (2 * j + 1) % p := by
 rw [Nat.mul_mod, Nat.mod_mod, ← Nat.pow_mod, ← Nat.mul_mod, ← Nat.pow_two, ← Nat.pow_mul, Nat.pow_succ]
 congr 1
 rw [Nat.mul_assoc, Nat.mul_comm x]
theorem pstep_even (p o x j : Nat) : o * (x * x % p) ^ j % p = o * x ^ (2 * j) % p := by
 rw [Nat.mul_mod, ← Nat.pow_mod, ← Nat.mul_mod, ← Nat.pow_two, ← Nat.pow_mul]
set_option maxHeartbeats 800000 in
theorem fieldPow_any (a k : Nat) (ha : a < 18446744069414584321) (hk : k < 18446744073709551616) (w : World) : Calls Tryz.prog 97 #[.int .u64 (a : Int), .int .u64 (k : Int)] w fun e w' => ∃ r : Nat, e = .returned (.int .u64 (r : Int)) ∧ r = a ^ k % 18446744069414584321 ∧ w = w' := by
 go_enter Tryz.func97, Tryz.ntmps97
 go_wp2_with fail
 go_loop [0, 1, 5] (fun xv ev ov => ∃ x e o : Nat, x < 18446744069414584321 ∧ e < 18446744073709551616 ∧ o < 18446744069414584321 ∧ xv = .int .u64 x ∧ ev = .int .u64 e ∧ ov = .int .u64 o ∧ Hid (o * x ^ e % 18446744069414584321 = a ^ k % 18446744069414584321)) (fun _ ev _ => (intOf ev).toNat)
 case atStart => exact ⟨a, k, 1, ha, hk, by omega, rfl, rfl, rfl, hi9 (by rw [Nat.one_mul])⟩
 case round =>
  obtain ⟨x, e, o, hx, he, ho, rfl, rfl, rfl, H⟩ := hrel
  rcases Nat.eq_zero_or_pos e with h0 | h0
  ·obtain rfl := h0
   go_wp2_with fail
   go_ret
   have := H.out
   rw [Nat.pow_zero, Nat.mul_one, Nat.mod_eq_of_lt ho] at this
   exact ⟨o, rfl, this, rfl⟩
  ·rcases Nat.mod_two_eq_zero_or_one e with h2 | h2
   ·obtain ⟨j, rfl⟩ : ∃ j, e = 2 * j := ⟨e / 2, by omega⟩
    have t1 : ((2 * (j : Int)) % 2 == 1) = false := by simp
    have t2 : (2 * (j : Int)) / 2 = (j : Int) := by omega
    have hj : 0 < j := by omega
    clear h2
    go_wp2_with (go_at_call 100; (with_reducible refine (fieldMul_any x x (by omega) (by omega) _).mono ?_); rintro e w' ⟨rfl, rfl⟩)
    go_round
    case rel => exact ⟨x * x % 18446744069414584321, j, o, Nat.mod_lt _ (by omega), by omega, ho, rfl, by go_num, rfl, hi9 (by rw [pstep_even]; exact H.out)⟩
    case measure => simp [intOf]; omega
   ·obtain ⟨j, rfl⟩ : ∃ j, e = 2 * j + 1 := ⟨e / 2, by omega⟩
    have t1 : ((2 * (j : Int) + 1) % 2 == 1) = true := by rw [beq_iff_eq]; omega
    have t2 : (2 * (j : Int) + 1) / 2 = (j : Int) := by omega
    clear h2
    go_wp2_with (first
     | (go_at_call 100; (with_reducible refine (fieldMul_any o x (by omega) (by omega) _).mono ?_); rintro e w' ⟨rfl, rfl⟩)
     | (go_at_call 100; (with_reducible refine (fieldMul_any x x (by omega) (by omega) _).mono ?_); rintro e w' ⟨rfl, rfl⟩))
    go_round
    case rel => exact ⟨x * x % 18446744069414584321, j, o * x % 18446744069414584321, Nat.mod_lt _ (by omega), by omega, Nat.mod_lt _ (by omega), rfl, by go_num, rfl, hi9 (by rw [pstep_odd]; exact H.out)⟩
    case measure => simp [intOf]; omega
theorem pow_next (p x i : Nat) : x ^ i % p * x % p = x ^ (i + 1) % p := by
 rw [Nat.pow_succ, Nat.mul_mod, Nat.mod_mod, ← Nat.mul_mod]
set_option maxHeartbeats 1600000 in
theorem rootsOf_any (n h r : Nat) (hn : n = 2 * h) (h1 : 1 ≤ h) (hr : r < 18446744069414584321) (hm : h ≤ 35184372088832) (w : World) : Calls Tryz.prog 96 #[.int .i64 (n : Int), .int .u64 (r : Int)] w fun e w' => ∃ zs g, e = .returned (.slice (some ⟨g, 0, none⟩) zs.length zs.length) ∧ zs.length = h ∧ (∀ v ∈ zs, v < 18446744069414584321) ∧ (∀ i (hi : i < zs.length), zs[i] = r ^ i % 18446744069414584321) ∧ w.heap.size ≤ g ∧ Blk w' g 53 (u64s zs) ∧ Below w.heap.size w w' := by
 have q1 : (n : Int) / 2 = (h : Int) := by omega
 have q2 : max (h : Int) 1 = (h : Int) := by omega
 have hmk := fun W => mk64 h hm W
 have hnb : n ≤ 9223372036854775807 := by omega
 have hh0 : 0 < h := by omega
 clear hn
 have hc0 : ∀ W : World, Blk W w.heap.size 53 (u64s (List.replicate h 0)) → W.cell? ⟨w.heap.size, 0, none⟩ = some (.int .u64 0) ∧ W.frozen? ⟨w.heap.size, 0, none⟩ = false := fun W hW => ⟨by rw [hW.cell, u64s_at (by simpa using hh0)]; simp, hW.frozen 0⟩
 have hb0 : Blk (w.alloc (.cells (Array.replicate h (Value.int .u64 0)) 53)) w.heap.size 53 (u64s (List.replicate h 0)) := Blk.new_ (by simp [u64s])
 obtain ⟨c1, c2⟩ := hc0 _ hb0
 clear hc0
 go_enter Tryz.func96, Tryz.ntmps96
 go_wp2_with fail
 go_loopw [6] (fun i wr => ∃ (k : Nat) (zs : List Nat), 1 ≤ k ∧ k ≤ h ∧ i = .int .i64 k ∧ zs.length = h ∧ (∀ v ∈ zs, v < 18446744069414584321) ∧ Blk wr w.heap.size 53 (u64s zs) ∧ (∀ i (hi : i < zs.length), i < k → zs[i] = r ^ i % 18446744069414584321) ∧ Below w.heap.size w wr) (fun i _ => h - (intOf i).toNat)
 case atStart =>
  refine ⟨1, (List.replicate h 0).set 0 1, by omega, h1, rfl, by simp, ?_, ?_, ?_, br9.alloc nl9 _⟩
  ·intro v hv
   rcases List.mem_or_eq_of_mem_set hv with hv | rfl
   ·rw [(List.mem_replicate.1 hv).2]; omega
   ·omega
  ·refine Blk.new_ ?_
   apply Array.ext'
   simp [u64s, List.map_set]
  ·intro i hi hi1
   obtain rfl : i = 0 := by omega
   simp
 case round =>
  clear hb0 c1 c2
  obtain ⟨k, zs, hk1, hk, rfl, hzl, hzp, hblk, hz, hbel⟩ := hrel
  by_cases hlt : k < h
  ·obtain ⟨j, rfl⟩ : ∃ j, k = j + 1 := ⟨k - 1, by omega⟩
   have hj : j < zs.length := by omega
   have hj1 : j + 1 < zs.length := by omega
   have hc := (hblk.cell j).trans (u64s_at hj)
   have hc2 := (hblk.cell (j + 1)).trans (u64s_at hj1)
   have hf := hblk.frozen (j + 1)
   have hzj := hz j hj (by omega)
   have hzb := hzp _ (List.getElem_mem hj)
   have t1 : ((j : Int) + 1) - 1 = (j : Int) := by omega
   have Hz := hi9 hz
   have Hzj := hi9 hzj
   have Hzp := hi9 hzp
   have Hzl := hi9 hzl
   have hjh : j + 1 < h := hlt
   clear hz hzj hzp hzl
   go_wp2_with (go_at_call 100; (with_reducible refine (fieldMul_any zs[j] r (by omega) (by omega) _).mono ?_); rintro e w' ⟨rfl, rfl⟩)
   go_roundw
   case rel =>
    refine ⟨j + 1 + 1, zs.set (j + 1) (zs[j] * r % 18446744069414584321), by omega, by omega, by go_num, by rw [List.length_set]; exact Hzl.out, ?_, ?_, ?_, hbel.setCell (p := ⟨w.heap.size, j + 1, none⟩) nl9 _⟩
    ·intro v hv
     rcases List.mem_or_eq_of_mem_set hv with hv | rfl
     ·exact Hzp.out v hv
     ·exact Nat.mod_lt _ (by omega)
    ·have := hblk.set_ (j + 1) (.int .u64 ((zs[j] * r % 18446744069414584321 : Nat) : Int))
     rw [u64s_set] at this
     exact this
    ·intro i hi hik
     rw [List.getElem_set]
     split
     ·rename_i hji
      subst hji
      rw [Hzj.out, pow_next]
     ·exact Hz.out i (by simpa using hi) (by omega)
   case measure => simp [intOf]; omega
  ·have hkh : k = h := by omega
   have Hz := hi9 hz
   have Hzl := hi9 hzl
   have Hkh := hi9 hkh
   have t2 : h ≤ k := by omega
   clear hz hzl hkh
   go_wp2_with fail
   go_ret
   exact ⟨zs, _, by rw [Hzl.out]; rfl, Hzl.out, hzp, fun i hi => Hz.out i hi (by rw [Hkh.out, ← Hzl.out]; exact hi), Nat.le_refl _, hblk, hbel⟩
end
section
open Go.RowKit
def dig4 (x : Nat) : List Nat := [x % 65536, x / 65536 % 65536, x / 4294967296 % 65536, x / 281474976710656 % 65536]
def digs : List Nat → List Nat
 | [] => []
 | x :: xs => dig4 x ++ digs xs
theorem digs_length (xs : List Nat) : (digs xs).length = 4 * xs.length := by
 induction xs with
 | nil => rfl
 | cons x xs ih => simp only [digs, List.length_append, ih, List.length_cons]; simp [dig4]; omega
theorem digs_le (xs : List Nat) : ∀ v ∈ digs xs, v ≤ 65535 := by
 induction xs with
 | nil => intro v hv; cases hv
 | cons x xs ih =>
  intro v hv
  rcases List.mem_append.1 hv with hv | hv
  ·simp only [dig4, List.mem_cons, List.not_mem_nil, or_false] at hv
   omega
  ·exact ih v hv
theorem digs_val (xs : List Nat) (h : Dig 18446744073709551616 xs) : val 65536 (digs xs) = val 18446744073709551616 xs := by
 induction xs with
 | nil => rfl
 | cons x xs ih =>
  have hx := h.head_
  simp only [digs, val_append, ih h.tail_, val]
  simp only [dig4, val, List.length_cons, List.length_nil]
  rw [show (65536 : Nat) ^ (0 + 1 + 1 + 1 + 1) = 18446744073709551616 from rfl]
  omega
theorem digs_append (xs ys : List Nat) : digs (xs ++ ys) = digs xs ++ digs ys := by
 induction xs with
 | nil => rfl
 | cons x xs ih => simp only [List.cons_append, digs, ih, List.append_assoc]
theorem set_end (A : List Nat) (m v : Nat) : (A ++ List.replicate (m + 1) 0).set A.length v = (A ++ [v]) ++ List.replicate m 0 := by
 rw [List.set_append_right _ _ nl9, Nat.sub_self, List.replicate_succ, List.append_assoc]; rfl
def DigRow (us : List Nat) (n k j x : Nat) : List Nat := digs (us.take k) ++ (dig4 x).take j ++ List.replicate (n - 4 * k - j) 0
theorem DigRow.length {us : List Nat} {n k j x : Nat} (hk : k ≤ us.length) (hj : j ≤ 4) (hn : 4 * k + j ≤ n) : (DigRow us n k j x).length = n := by
 unfold DigRow
 rw [List.length_append, List.length_append, digs_length, List.length_take, List.length_take, List.length_replicate]
 simp [dig4]; omega
theorem DigRow.step {us : List Nat} {n k j x d : Nat} (hk : k ≤ us.length) (hj : j < 4) (hn : 4 * k + j < n) (hd : (dig4 x)[j]? = some d) : (DigRow us n k j x).set (4 * k + j) d = DigRow us n k (j + 1) x := by
 unfold DigRow
 have hl : (digs (us.take k) ++ (dig4 x).take j).length = 4 * k + j := by
  rw [List.length_append, digs_length, List.length_take, List.length_take]
  simp [dig4]; omega
 have e1 : n - 4 * k - j = (n - 4 * k - (j + 1)) + 1 := by omega
 rw [e1, ← hl, set_end]
 congr 1
 rw [List.append_assoc]
 congr 1
 have hj4 : j < (dig4 x).length := hj
 rw [List.getElem?_eq_getElem hj4] at hd
 rw [← Option.some.inj hd]
 exact (List.take_succ_eq_append_getElem hj4).symm
theorem DigRow.next {us : List Nat} {n k : Nat} (hk : k < us.length) (hn : 4 * k + 4 ≤ n) : DigRow us n k 4 us[k] = DigRow us n (k + 1) 0 0 := by
 unfold DigRow
 rw [List.take_succ_eq_append_getElem hk, digs_append]
 simp only [digs, List.append_nil, List.take_zero]
 rw [show n - 4 * k - 4 = n - 4 * (k + 1) - 0 from by omega]
 rfl
theorem DigRow.start (us : List Nat) (n : Nat) : DigRow us n 0 0 0 = List.replicate n 0 := by simp [DigRow, digs]
theorem DigRow.finish (us : List Nat) (n : Nat) : DigRow us n us.length 0 0 = digs us ++ List.replicate (n - 4 * us.length) 0 := by simp [DigRow]
theorem DigRow.zero (us : List Nat) (n k x : Nat) : DigRow us n k 0 x = DigRow us n k 0 0 := by simp [DigRow]
theorem and_mask (y : Nat) (h : y < 18446744073709551616) : bits BinOp.and IntKind.u64 (y : Int) 65535 = ((y % 65536 : Nat) : Int) := by
 have h1 := u64_and_nat y 65535 h (by omega)
 have h2 : y &&& 65535 = y % 65536 := Nat.and_two_pow_sub_one_eq_mod y 16
 rw [h2] at h1
 exact h1
set_option maxHeartbeats 1600000 in
theorem digitsOf_any (A : Option Addr) (c : Nat) (us : List Nat) (n : Nat) (w : World) (B : Nat) (hr : Rd w B A (u64s us)) (hB : B ≤ w.heap.size) (hd : Dig 18446744073709551616 us) (hn : 4 * us.length ≤ n) (hm : n ≤ 35184372088832) :
  Calls Tryz.prog 98 #[.slice A us.length c, .int .i64 (n : Int)] w fun e w' => ∃ g, e = .returned (.slice (some ⟨g, 0, none⟩) n n) ∧ w.heap.size ≤ g ∧ Blk w' g 53 (u64s (digs us ++ List.replicate (n - 4 * us.length) 0)) ∧ Below w.heap.size w w' := by
 have hmk := fun W => mk64 n hm W
 go_enter Tryz.func98, Tryz.ntmps98
 go_wp2_with fail
 go_loopw [6, 7, 8, 13] (fun _ _ _ i wr => ∃ k : Nat, k ≤ us.length ∧ i = .int .i64 k ∧ Blk wr w.heap.size 53 (u64s (DigRow us n k 0 0)) ∧ Below w.heap.size w wr) (fun _ _ _ i _ => us.length - (intOf i).toNat)
 case atStart => exact ⟨0, by omega, rfl, by rw [DigRow.start]; exact Blk.new_ (by simp [u64s]), br9.alloc nl9 _⟩
 case round =>
  obtain ⟨k, hk, rfl, hblk, hbel⟩ := hrel
  by_cases hlt : k < us.length
  ·obtain ⟨b, off, rfl, hb, hx⟩ := hr.at64 hlt
   have hx := (hbel.cell (p := ⟨b, off + k, none⟩) (show b < _ by omega)).trans hx
   have hxd := hd.at_ k hlt
   have hkn : 4 * k + 4 ≤ n := by omega
   go_wp2_with fail
   go_loopw [8, 18] (fun _ i wr => ∃ j : Nat, j ≤ 4 ∧ i = .int .i64 j ∧ Blk wr w.heap.size 53 (u64s (DigRow us n k j us[k])) ∧ Below w.heap.size w wr) (fun _ i _ => 4 - (intOf i).toNat)
   case atStart => exact ⟨0, by omega, rfl, by rw [DigRow.zero]; exact hblk, hbel⟩
   case round =>
    clear hblk hbel
    obtain ⟨j, hj, rfl, hblk, hbel⟩ := hrel
    by_cases hj4 : j < 4
    ·have hlen := DigRow.length (us := us) (n := n) (k := k) (j := j) (x := us[k]) hk hj (by omega)
     have hidx : 4 * k + j < (DigRow us n k j us[k]).length := by rw [hlen]; omega
     obtain ⟨vv, hc⟩ : ∃ vv, wr.cell? ⟨w.heap.size, 4 * k + j, none⟩ = some vv := ⟨_, (hblk.cell (4 * k + j)).trans (u64s_at hidx)⟩
     have hf := hblk.frozen (4 * k + j)
     have hset := fun d => hblk.set_ (4 * k + j) (.int .u64 ((d : Nat) : Int))
     have Hset := hi9 hset
     have hkn' : 4 * (k : Int) + 3 < (n : Int) := by omega
     have i0 : 4 * k + j < n := by omega
     have i1 : 4 * k < n := by omega
     clear hlen hidx hset
     rcases (by omega : j = 0 ∨ j = 1 ∨ j = 2 ∨ j = 3) with rfl | rfl | rfl | rfl
     ·have hc0 : wr.cell? ⟨w.heap.size, 4 * k, none⟩ = some vv := hc
      have hf0 : wr.frozen? ⟨w.heap.size, 4 * k, none⟩ = false := hf
      clear hc hf
      have a1 := and_mask us[k] hxd
      obtain ⟨d, hdd⟩ : ∃ d, d = us[k] % 65536 := ⟨_, rfl⟩
      rw [← hdd] at a1
      have a2 : (us[k] : Int) % 65536 = (d : Int) := by omega
      have hst := DigRow.step (us := us) (n := n) (k := k) (j := 0) (x := us[k]) (d := d) hk (by omega) i0 (by rw [hdd]; rfl)
      have Hst := hi9 hst
      clear hdd hst
      go_wp2_with fail
      go_roundw
      case rel => exact ⟨1, by omega, rfl, by have := Hset.out d; rw [u64s_set, Hst.out] at this; first | exact this | (rw [a1]; exact this), hbel.setCell (p := ⟨w.heap.size, 4 * k + 0, none⟩) nl9 _⟩
      case measure => simp [intOf]
     ·obtain ⟨y, hy⟩ : ∃ y, y = us[k] / 65536 := ⟨_, rfl⟩
      have b1 : (us[k] : Int) / 65536 = (y : Int) := by omega
      have a1 := and_mask y (by omega)
      obtain ⟨d, hdd⟩ : ∃ d, d = y % 65536 := ⟨_, rfl⟩
      rw [← hdd] at a1
      have a2 : (y : Int) % 65536 = (d : Int) := by omega
      have e9 : bits BinOp.and IntKind.u64 ((us[k] : Int) / 65536) 65535 = (d : Int) := by rw [b1]; exact a1
      have hyb : y < 18446744073709551616 := by omega
      have hst := DigRow.step (us := us) (n := n) (k := k) (j := 1) (x := us[k]) (d := d) hk (by omega) i0 (by rw [hdd, hy]; rfl)
      have Hst := hi9 hst
      clear hdd hst hy
      go_wp2_with fail
      go_roundw
      case rel => exact ⟨2, by omega, rfl, by have := Hset.out d; rw [u64s_set, Hst.out] at this; first | exact this | (rw [e9]; exact this), hbel.setCell (p := ⟨w.heap.size, 4 * k + 1, none⟩) nl9 _⟩
      case measure => simp [intOf]
     ·obtain ⟨y, hy⟩ : ∃ y, y = us[k] / 4294967296 := ⟨_, rfl⟩
      have b1 : (us[k] : Int) / 4294967296 = (y : Int) := by omega
      have a1 := and_mask y (by omega)
      obtain ⟨d, hdd⟩ : ∃ d, d = y % 65536 := ⟨_, rfl⟩
      rw [← hdd] at a1
      have a2 : (y : Int) % 65536 = (d : Int) := by omega
      have e9 : bits BinOp.and IntKind.u64 ((us[k] : Int) / 4294967296) 65535 = (d : Int) := by rw [b1]; exact a1
      have hyb : y < 18446744073709551616 := by omega
      have hst := DigRow.step (us := us) (n := n) (k := k) (j := 2) (x := us[k]) (d := d) hk (by omega) i0 (by rw [hdd, hy]; rfl)
      have Hst := hi9 hst
      clear hdd hst hy
      go_wp2_with fail
      go_roundw
      case rel => exact ⟨3, by omega, rfl, by have := Hset.out d; rw [u64s_set, Hst.out] at this; first | exact this | (rw [e9]; exact this), hbel.setCell (p := ⟨w.heap.size, 4 * k + 2, none⟩) nl9 _⟩
      case measure => simp [intOf]
     ·obtain ⟨y, hy⟩ : ∃ y, y = us[k] / 281474976710656 := ⟨_, rfl⟩
      have b1 : (us[k] : Int) / 281474976710656 = (y : Int) := by omega
      have a1 := and_mask y (by omega)
      obtain ⟨d, hdd⟩ : ∃ d, d = y % 65536 := ⟨_, rfl⟩
      rw [← hdd] at a1
      have a2 : (y : Int) % 65536 = (d : Int) := by omega
      have e9 : bits BinOp.and IntKind.u64 ((us[k] : Int) / 281474976710656) 65535 = (d : Int) := by rw [b1]; exact a1
      have hyb : y < 18446744073709551616 := by omega
      have hst := DigRow.step (us := us) (n := n) (k := k) (j := 3) (x := us[k]) (d := d) hk (by omega) i0 (by rw [hdd, hy]; rfl)
      have Hst := hi9 hst
      clear hdd hst hy
      go_wp2_with fail
      go_roundw
      case rel => exact ⟨4, by omega, rfl, by have := Hset.out d; rw [u64s_set, Hst.out] at this; first | exact this | (rw [e9]; exact this), hbel.setCell (p := ⟨w.heap.size, 4 * k + 3, none⟩) nl9 _⟩
      case measure => simp [intOf]
    ·obtain rfl : j = 4 := by omega
     rw [DigRow.next hlt hkn] at hblk
     go_wp2_with fail
     go_roundw
     case rel => exact ⟨k + 1, by omega, by go_num, hblk, hbel⟩
     case measure => simp [intOf]; omega
  ·obtain rfl : k = us.length := by omega
   rw [DigRow.finish] at hblk
   go_wp2_with fail
   go_ret
   exact ⟨_, rfl, Nat.le_refl _, hblk, hbel⟩
end
end Go.Proofs.YtcjgilagldbjnaaGreatDoor
