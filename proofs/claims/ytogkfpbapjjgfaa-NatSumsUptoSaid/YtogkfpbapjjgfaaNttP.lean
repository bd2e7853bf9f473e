/- Plain algebra: products of digit lists by a transform modulo 2^64 - 2^32 + 1. No conditions. -/
import Derived.Test.YtogkfpbapjjgfaaNttM
namespace Go.Proofs.Ytogkfpbapjjgfaa

section Poly
variable {z9 : Nat} [NeZero z9]
def addP : List Nat → List Nat → List Nat
  | [], ys => ys
  | xs, [] => xs
  | x :: xs, y :: ys => (x + y) :: addP xs ys
/-- The coefficients of the product, in as many places as both have. -/
def mulL : List Nat → List Nat → List Nat
  | [], ys => List.replicate ys.length 0
  | x :: xs, ys => addP (ys.map (x * ·)) (0 :: mulL xs ys)
theorem addP_length (xs ys : List Nat) : (addP xs ys).length = max xs.length ys.length := by
  induction xs generalizing ys with
  | nil => simp [addP]
  | cons x xs ih => cases ys with
    | nil => simp [addP]
    | cons y ys => simp only [addP, List.length_cons, ih]; omega
theorem mulL_length (xs ys : List Nat) : (mulL xs ys).length = xs.length + ys.length := by
  induction xs with
  | nil => simp [mulL]
  | cons x xs ih => simp only [mulL, addP_length, List.length_map, List.length_cons, ih]; omega
theorem addP_le {xs ys : List Nat} {A B : Nat} (hx : ∀ v ∈ xs, v ≤ A) (hy : ∀ v ∈ ys, v ≤ B) : ∀ v ∈ addP xs ys, v ≤ A + B := by
  induction xs generalizing ys with
  | nil => intro v hv; have := hy v hv; omega
  | cons x xs ih => cases ys with
    | nil => intro v hv; have := hx v hv; omega
    | cons y ys =>
      intro v hv
      rcases List.mem_cons.1 hv with rfl | hv
      · have := hx x (List.mem_cons_self); have := hy y (List.mem_cons_self); omega
      · exact ih (fun v hv => hx v (List.mem_cons_of_mem _ hv)) (fun v hv => hy v (List.mem_cons_of_mem _ hv)) v hv
theorem mulL_le {xs ys : List Nat} {M : Nat} (hx : ∀ v ∈ xs, v ≤ M) (hy : ∀ v ∈ ys, v ≤ M) : ∀ v ∈ mulL xs ys, v ≤ xs.length * (M * M) := by
  induction xs with
  | nil => intro v hv; rw [(List.mem_replicate.1 hv).2]; omega
  | cons x xs ih =>
    intro v hv
    have h1 := addP_le (A := M * M) (B := xs.length * (M * M)) (xs := ys.map (x * ·)) (ys := 0 :: mulL xs ys) (fun v hv => by
      obtain ⟨y, hy1, rfl⟩ := List.mem_map.1 hv
      exact Nat.mul_le_mul (hx x List.mem_cons_self) (hy y hy1)) (fun v hv => by
      rcases List.mem_cons.1 hv with rfl | hv
      · omega
      · exact ih (fun v hv => hx v (List.mem_cons_of_mem _ hv)) v hv) v hv
    rw [List.length_cons, Nat.succ_mul]; omega

/-- The polynomial at t. -/
def evL (f : Nat → Fin z9) (t : Fin z9) : List Nat → Fin z9
  | [] => 0
  | x :: xs => f x + t * evL f t xs
theorem evL_addP (f : Nat → Fin z9) (hf : ∀ a b, f (a + b) = f a + f b) (t : Fin z9) (xs ys : List Nat) : evL f t (addP xs ys) = evL f t xs + evL f t ys := by
  induction xs generalizing ys with
  | nil => simp only [addP, evL]; grind
  | cons x xs ih => cases ys with
    | nil => simp only [addP, evL]; grind
    | cons y ys => simp only [addP, evL, ih, hf]; grind
theorem evL_map (f : Nat → Fin z9) (hm : ∀ a b, f (a * b) = f a * f b) (t : Fin z9) (x : Nat) (ys : List Nat) : evL f t (ys.map (x * ·)) = f x * evL f t ys := by
  induction ys with
  | nil => simp only [List.map_nil, evL]; grind
  | cons y ys ih => simp only [List.map_cons, evL, ih, hm]; grind
theorem evL_zeros (f : Nat → Fin z9) (h0 : f 0 = 0) (t : Fin z9) (n : Nat) : evL f t (List.replicate n 0) = 0 := by
  induction n with
  | zero => rfl
  | succ n ih => simp only [List.replicate_succ, evL, ih, h0]; grind
theorem evL_mulL (f : Nat → Fin z9) (h0 : f 0 = 0) (hf : ∀ a b, f (a + b) = f a + f b) (hm : ∀ a b, f (a * b) = f a * f b) (t : Fin z9) (xs ys : List Nat) : evL f t (mulL xs ys) = evL f t xs * evL f t ys := by
  induction xs with
  | nil => simp only [mulL, evL, evL_zeros f h0]; grind
  | cons x xs ih => simp only [mulL, evL, evL_addP f hf, evL_map f hm, ih, h0]; grind
theorem evL_sm (f : Nat → Fin z9) (h0 : f 0 = 0) (t : Fin z9) (xs : List Nat) (n : Nat) (hn : xs.length ≤ n) : sm (fun i => f (xs.getD i 0) * t ^ i) n = evL f t xs := by
  induction xs generalizing n with
  | nil =>
    rw [sm_congr (g := fun _ => (0 : Fin z9)) n (fun i _ => by simp [h0]; grind), sm_zero]; rfl
  | cons x xs ih =>
    cases n with
    | zero => simp at hn
    | succ n =>
      rw [sm_shift]
      have := ih n (by simpa using hn)
      simp only [List.getD_cons_zero, List.getD_cons_succ, evL]
      rw [← this, ← sm_mul, pw_zero]
      have e : sm (fun i => f (xs.getD i 0) * t ^ (i + 1)) n = sm (fun i => t * (f (xs.getD i 0) * t ^ i)) n := sm_congr n fun i _ => by rw [pw_succ]; grind
      rw [e]; grind
end Poly

abbrev FP := Fin 18446744069414584321
def ph (a : Nat) : FP := Fin.ofNat _ a
theorem ph_val (a : Nat) : (ph a).val = a % 18446744069414584321 := rfl
theorem ph_add (a b : Nat) : ph (a + b) = ph a + ph b := by apply Fin.ext; simp [ph, Fin.ofNat, Fin.add_def]
theorem ph_mul (a b : Nat) : ph (a * b) = ph a * ph b := by apply Fin.ext; simp [ph, Fin.ofNat, Fin.mul_def, Nat.mul_mod]
theorem ph_mod (a : Nat) : ph (a % 18446744069414584321) = ph a := by apply Fin.ext; simp [ph, Fin.ofNat]
theorem ph_zero : ph 0 = 0 := rfl
theorem ph_one : ph 1 = 1 := rfl
theorem ph_pow (a n : Nat) : ph (a ^ n) = ph a ^ n := by
  induction n with
  | zero => rw [pw_zero]; rfl
  | succ n ih => rw [Nat.pow_succ, ph_mul, ih, pw_succ]
theorem ph_inj {a b : Nat} (ha : a < 18446744069414584321) (hb : b < 18446744069414584321) (h : ph a = ph b) : a = b := by
  have := congrArg Fin.val h
  rw [ph_val, ph_val, Nat.mod_eq_of_lt ha, Nat.mod_eq_of_lt hb] at this
  exact this
theorem ph_of_mod {a b : Nat} (h : a % 18446744069414584321 = b % 18446744069414584321) : ph a = ph b := by rw [← ph_mod, h, ph_mod]

/-- Powers by squares, for the kernel. -/
def pm (p : Nat) : Nat → Nat → Nat → Nat
  | 0, _, _ => 1
  | fuel + 1, a, e => if e = 0 then 1 else if e % 2 = 1 then a * pm p fuel (a * a % p) (e / 2) % p else pm p fuel (a * a % p) (e / 2)
theorem pm_eq (p : Nat) (fuel a e : Nat) (h : e < 2 ^ fuel) : pm p fuel a e % p = a ^ e % p := by
  induction fuel generalizing a e with
  | zero => obtain rfl : e = 0 := by simpa using h
            rfl
  | succ fuel ih =>
    simp only [pm]
    have h2 := ih (a * a % p) (e / 2) (by rw [Nat.pow_succ] at h; omega)
    have h3 : (a * a % p) ^ (e / 2) % p = a ^ (2 * (e / 2)) % p := by
      rw [← Nat.pow_mod, Nat.pow_mul, Nat.pow_two]
    split
    · rename_i h0; rw [h0]; rfl
    · split
      · rename_i h1
        have e2 : e = 2 * (e / 2) + 1 := by omega
        conv => rhs; rw [e2, Nat.pow_succ, Nat.mul_mod, ← h3, ← h2]
        rw [Nat.mul_comm, Nat.mul_mod, Nat.mod_mod]
      · have e2 : e = 2 * (e / 2) := by omega
        conv => rhs; rw [e2, ← h3, ← h2]
theorem seven_half : (7 : Nat) ^ 9223372034707292160 % 18446744069414584321 = 18446744069414584320 := by
  rw [← pm_eq 18446744069414584321 64 7 9223372034707292160 (by decide)]
  decide +kernel
theorem two_192 : (2 : Nat) ^ 192 % 18446744069414584321 = 1 := by decide +kernel
theorem ph_seven : ph 7 ^ 9223372034707292160 = -1 := by
  rw [← ph_pow]
  apply Fin.ext
  rw [ph_val, seven_half]; rfl

section Final
variable {z9 : Nat} [NeZero z9]
theorem in_block {k m j : Nat} (hm : m < k) (hj : j < 2 ^ k) (h : j % (2 * 2 ^ m) < 2 ^ m) : j + 2 ^ m < 2 ^ k := by
  obtain ⟨q, hq⟩ : ∃ q, 2 ^ k = 2 * 2 ^ m * q := ⟨2 ^ (k - (m + 1)), by
    rw [← Nat.pow_succ', ← Nat.pow_add]; congr 1; omega⟩
  have h1 := Nat.div_add_mod j (2 * 2 ^ m)
  have h2 : j / (2 * 2 ^ m) < q := by
    rw [Nat.div_lt_iff_lt_mul (by have := Nat.two_pow_pos m; omega), Nat.mul_comm, ← hq]; exact hj
  have h3 : 2 * 2 ^ m * (j / (2 * 2 ^ m) + 1) ≤ 2 * 2 ^ m * q := Nat.mul_le_mul_left _ h2
  rw [← hq, Nat.mul_add] at h3
  omega
omit [NeZero z9] in
theorem sLay_local {k m : Nat} (hm : m < k) (rt x y : Nat → Fin z9) (h : ∀ j, j < 2 ^ k → x j = y j) : ∀ j, j < 2 ^ k → sLay (2 ^ m) rt x j = sLay (2 ^ m) rt y j := by
  intro j hj
  unfold sLay
  split
  · rename_i hl
    rw [h j hj, h _ (in_block hm hj hl)]
  · rw [h j hj, h (j - 2 ^ m) (Nat.lt_of_le_of_lt (Nat.sub_le _ _) hj)]
omit [NeZero z9] in
theorem gLay_local {k m : Nat} (hm : m < k) (rt x y : Nat → Fin z9) (h : ∀ j, j < 2 ^ k → x j = y j) : ∀ j, j < 2 ^ k → gLay (2 ^ m) rt x j = gLay (2 ^ m) rt y j := by
  intro j hj
  unfold gLay
  split
  · rename_i hl
    rw [h j hj, h _ (in_block hm hj hl)]
  · rw [h j hj, h (j - 2 ^ m) (Nat.lt_of_le_of_lt (Nat.sub_le _ _) hj)]
omit [NeZero z9] in
theorem gAll_local {k : Nat} (rus : Nat → Nat → Fin z9) (x y : Nat → Fin z9) (h : ∀ j, j < 2 ^ k → x j = y j) (m : Nat) (hm : m ≤ k) : ∀ j, j < 2 ^ k → gAll rus m x j = gAll rus m y j := by
  induction m with
  | zero => exact h
  | succ m ih => exact gLay_local (by omega) _ _ _ (ih (by omega))
end Final

/-- The root of the order 2^k, and its inverse. -/
def rootE (k : Nat) : Nat := 18446744069414584320 / 2 ^ k
theorem rootE_mul {k : Nat} (hk : k ≤ 32) : rootE k * 2 ^ k = 18446744069414584320 := by
  unfold rootE
  refine Nat.div_mul_cancel ⟨2 ^ (32 - k) * 4294967295, ?_⟩
  rw [← Nat.mul_assoc, ← Nat.pow_add, show k + (32 - k) = 32 from by omega]
theorem root_half {k : Nat} (hk : k ≤ 32) (h0 : 1 ≤ k) : (ph 7 ^ rootE k) ^ 2 ^ (k - 1) = (-1 : FP) := by
  rw [← pw_pw, ← ph_seven]
  congr 1
  have h := rootE_mul hk
  rw [show 2 ^ k = 2 ^ (k - 1) * 2 from by rw [← Nat.pow_succ]; congr 1; omega, ← Nat.mul_assoc] at h
  omega
theorem root_inv {k : Nat} : ph 7 ^ rootE k * ph 7 ^ (18446744069414584320 - rootE k) = (1 : FP) := by
  have h : rootE k ≤ 18446744069414584320 := Nat.div_le_self _ _
  rw [← pw_add, show rootE k + (18446744069414584320 - rootE k) = 9223372034707292160 + 9223372034707292160 from by omega, pw_add, ph_seven]
  grind
theorem scale_inv (k e : Nat) (he : e + 1 = 18446744069414584320) : (2 : FP) ^ k * ph ((2 ^ k) ^ e % 18446744069414584321) = 1 := by
  rw [ph_mod, ph_pow, ph_pow, show ph 2 = 2 from rfl, show ((2 : FP) ^ k) * (2 ^ k) ^ e = (2 ^ k) ^ (e + 1) from by rw [pw_succ]; grind, he, ← pw_pw, show k * 18446744069414584320 = 192 * (k * 96076792028200960) from by omega, pw_pw]
  have h : (2 : FP) ^ 192 = 1 := by
    rw [show (2 : FP) = ph 2 from rfl, ← ph_pow]
    apply Fin.ext
    rw [ph_val, two_192]; rfl
  rw [h, pw_one]

/-- The list's places as elements of the field. -/
def fl (xs : List Nat) : Nat → FP := fun i => ph (xs.getD i 0)
/-- The roots of a layer. -/
def rtsOf (w : FP) (k : Nat) : Nat → Nat → FP := fun h i => w ^ (i * (2 ^ (k - 1) / h))

theorem half_div {k j : Nat} (hj : j < k) : 2 ^ (k - 1) / 2 ^ j = 2 ^ (k - 1 - j) := Nat.pow_div (by omega) (by omega)
theorem ntt_out (k e0 : Nat) (he0 : e0 + 1 = 18446744069414584320) (h0 : 1 ≤ k) (hk : k ≤ 32) (xs ys : List Nat) (M : Nat) (hx : ∀ v ∈ xs, v ≤ M) (hy : ∀ v ∈ ys, v ≤ M) (hl : xs.length + ys.length ≤ 2 ^ k) (hM : xs.length * (M * M) < 18446744069414584321)
    (V : Nat → FP) (hV : ∀ j, j < 2 ^ k → V j = sAll (rtsOf (ph 7 ^ rootE k) k) k k (fl xs) j * sAll (rtsOf (ph 7 ^ rootE k) k) k k (fl ys) j)
    (u : Nat → Nat) (hu : ∀ j, j < 2 ^ k → ph (u j) = gAll (rtsOf (ph 7 ^ (18446744069414584320 - rootE k)) k) k V j) :
    ∀ j, j < 2 ^ k → u j * ((2 ^ k) ^ e0 % 18446744069414584321) % 18446744069414584321 = (mulL xs ys).getD j 0 := by
  intro j hj
  have hw : ∀ j, j < k → ((ph 7 ^ rootE k) ^ 2 ^ (k - 1 - j)) ^ 2 ^ j = (-1 : FP) := fun j hj => by
    rw [← pw_pw, ← Nat.pow_add, show k - 1 - j + j = k - 1 from by omega]; exact root_half hk h0
  have hrt : ∀ j i, j < k → i < 2 ^ j → rtsOf (ph 7 ^ rootE k) k (2 ^ j) i = ((ph 7 ^ rootE k) ^ 2 ^ (k - 1 - j)) ^ i := fun j i hj _ => by
    unfold rtsOf
    rw [half_div hj, Nat.mul_comm, pw_pw]
  have hru : ∀ j i, j < k → i < 2 ^ j → rtsOf (ph 7 ^ rootE k) k (2 ^ j) i * rtsOf (ph 7 ^ (18446744069414584320 - rootE k)) k (2 ^ j) i = 1 := fun j i hj _ => by
    unfold rtsOf
    rw [← pw_mul, root_inv, pw_one]
  have hz : ∀ t : FP, sm (fun i => fl (mulL xs ys) i * t ^ i) (2 ^ k) = sm (fun i => fl xs i * t ^ i) (2 ^ k) * sm (fun i => fl ys i * t ^ i) (2 ^ k) := fun t => by
    unfold fl
    rw [evL_sm ph ph_zero t _ _ (by rw [mulL_length]; exact hl), evL_sm ph ph_zero t _ _ (by omega), evL_sm ph ph_zero t _ _ (by omega), evL_mulL ph ph_zero ph_add ph_mul]
  have hs := s_product (rtsOf (ph 7 ^ rootE k) k) (fun j => (ph 7 ^ rootE k) ^ 2 ^ (k - 1 - j)) k hw hrt (fl xs) (fl ys) (fl (mulL xs ys)) hz
  have hg := g_all (rtsOf (ph 7 ^ rootE k) k) (rtsOf (ph 7 ^ (18446744069414584320 - rootE k)) k) k hru (fl (mulL xs ys)) k (Nat.le_refl _) j
  have e : gAll (rtsOf (ph 7 ^ (18446744069414584320 - rootE k)) k) k V j = 2 ^ k * fl (mulL xs ys) j := by
    rw [gAll_local (k := k) _ _ (sAll (rtsOf (ph 7 ^ rootE k) k) k k (fl (mulL xs ys))) (fun j hj => by rw [hV j hj, hs j hj]) k (Nat.le_refl _) j hj, hg, Nat.sub_self]
    rfl
  refine ph_inj (Nat.mod_lt _ (by decide)) ?_ ?_
  · rw [List.getD_eq_getElem?_getD]
    by_cases hlt : j < (mulL xs ys).length
    · rw [List.getElem?_eq_getElem hlt]
      exact Nat.lt_of_le_of_lt (mulL_le hx hy _ (List.getElem_mem hlt)) hM
    · rw [List.getElem?_eq_none (by omega)]; decide
  · rw [ph_mod, ph_mul, hu j hj, e]
    have := scale_inv k e0 he0
    unfold fl
    grind
end Go.Proofs.Ytogkfpbapjjgfaa
