/- The polynomial of a matrix with noughts below the diagonal beneath the diagonal is its determinant's, modulo p. No conditions beyond the noughts. The reference's Mul of layer 21; the law's copied. Conditions: the sizes. Plain algebra: a transform by halves and back over any commutative ring. No conditions. Plain algebra over Z modulo a number: sums, combinations of rows, systems with more unknowns than equations. Conditions: where a field is wanted, each number but 0 has an inverse. -/
import Derived.Test.YtbafiahmcfkboaaDoorPkHm23
import Derived.Test.YtbafiahmcfkboaaDoorPkHm31
import Derived.Test.YtbafiahmcfkboaaDoorPkHm30
namespace Go.Proofs.YtbafiahmcfkboaaDoor
section
open Go.RowKit

/-- The same modulo p. -/
def Eqm (p a b : Int) : Prop := ∃ e, a = b + p * e
theorem Eqm.refl (p a : Int) : Eqm p a a := ⟨0, by omega⟩
theorem Eqm.trans {p a b c : Int} (h : Eqm p a b) (h2 : Eqm p b c) : Eqm p a c := by
  obtain ⟨e, rfl⟩ := h
  obtain ⟨e2, rfl⟩ := h2
  exact ⟨e2 + e, by grind⟩
theorem Eqm.mul {p a b c d : Int} (h : Eqm p a b) (h2 : Eqm p c d) : Eqm p (a * c) (b * d) := by
  obtain ⟨e, rfl⟩ := h
  obtain ⟨e2, rfl⟩ := h2
  exact ⟨e * d + b * e2 + p * e * e2, by grind⟩
theorem Eqm.add {p a b c d : Int} (h : Eqm p a b) (h2 : Eqm p c d) : Eqm p (a + c) (b + d) := by
  obtain ⟨e, rfl⟩ := h
  obtain ⟨e2, rfl⟩ := h2
  exact ⟨e + e2, by grind⟩
theorem Eqm.neg {p a b : Int} (h : Eqm p a b) : Eqm p (-a) (-b) := by
  obtain ⟨e, rfl⟩ := h
  exact ⟨-e, by grind⟩
theorem eqm_mod (x p : Nat) : Eqm (p : Int) ((x % p : Nat) : Int) (x : Int) := by
  refine ⟨-((x / p : Nat) : Int), ?_⟩
  have h : ((p * (x / p) + x % p : Nat) : Int) = (x : Int) := by rw [Nat.div_add_mod]
  rw [Int.natCast_add, Int.natCast_mul] at h
  grind
theorem eqm_pl (p x y c : Nat) : Eqm (p : Int) ((plN p x y c : Nat) : Int) ((x : Int) + y * c) := by
  unfold plN
  have h := eqm_mod (x + y * c) p
  rwa [Int.natCast_add, Int.natCast_mul] at h
theorem eqm_ng {p c : Nat} (hc : c < p) : Eqm (p : Int) ((ngN p c : Nat) : Int) (-(c : Int)) := by
  unfold ngN
  split
  · rename_i h; subst h; exact ⟨0, by simp⟩
  · exact ⟨1, by omega⟩
theorem Eqm.nat {p x y : Nat} (h : Eqm (p : Int) (x : Int) (y : Int)) (hx : x < p) (hy : y < p) : x = y := by
  obtain ⟨e, h⟩ := h
  have h1 : (p : Int) ∣ (x : Int) - y := ⟨e, by omega⟩
  have h2 := Int.emod_emod_of_dvd (x : Int) (Int.dvd_refl (p : Int))
  have h3 : (x : Int) % p = (y : Int) % p := by rw [h, Int.add_mul_emod_self_left]
  rw [Int.emod_eq_of_lt (by omega) (by omega), Int.emod_eq_of_lt (by omega) (by omega)] at h3
  omega
/-- The product of the numbers below the diagonal. -/
def Pd (H : Mf) (a : Nat) : Nat → Int
  | 0 => 1
  | j + 1 => Pd H a j * (H (a + j + 1) (a + j) : Int)
theorem Pd_front (H : Mf) (a : Nat) : ∀ j, Pd H a (j + 1) = (H (a + 1) a : Int) * Pd H (a + 1) j
  | 0 => by show 1 * (H (a + 0 + 1) (a + 0) : Int) = (H (a + 1) a : Int) * 1; simp
  | j + 1 => by
    show Pd H a (j + 1) * (H (a + (j + 1) + 1) (a + (j + 1)) : Int) = (H (a + 1) a : Int) * (Pd H (a + 1) j * (H (a + 1 + j + 1) (a + 1 + j) : Int))
    rw [Pd_front H a j, show a + (j + 1) = a + 1 + j by omega]; grind
/-- x less the matrix. -/
def xI (t : Int) (H : Nat → Nat → Int) : Nat → Nat → Int := fun i j => (if i = j then t else 0) - H i j
def ci (H : Mf) : Nat → Nat → Int := fun i j => (H i j : Int)
theorem Sd_xI (H : Mf) (t : Int) (a : Nat) : ∀ j, Sd (xI t (ci H)) a j = Pd H a j
  | 0 => rfl
  | j + 1 => by
    show Sd (xI t (ci H)) a j * - xI t (ci H) (a + j + 1) (a + j) = Pd H a j * _
    rw [Sd_xI H t a j]
    unfold xI ci
    rw [if_neg (by omega)]; grind
theorem xI_pol (H : Nat → Nat → Int) (i j : Nat) : Pol (fun t => xI t H i j) := by
  by_cases e : i = j
  · exact (Pol.var.add (Pol.num (-H i j))).congr fun t => by unfold xI; rw [if_pos e]; omega
  · exact (Pol.num (-H i j)).congr fun t => by unfold xI; rw [if_neg e]; omega
/-- A polynomial's coefficients as integers. -/
def cf (f : Nat → Nat) : Nat → Int := fun j => (f j : Int)
theorem chD_pc {p : Nat} (hp : 0 < p) (H : Mf) (k : Nat) (T : Mf) : ∀ (m : Nat) (nx : Nat → Nat) (u : Nat), m ≤ k + 1 → (0 < m → Eqm (p : Int) (u : Int) (Pd H (m - 1) (k + 1 - m))) →
    Pc (p : Int) (evl (cf (chD p H k T m nx u)) (k + 2)) (fun t => evl (cf nx) (k + 2) t + si (fun i => -((H i k : Int) * Pd H i (k - i)) * evl (cf (T i)) (i + 1) t) m)
  | 0, nx, u, _, _ => (Pc.refl _ (evl (cf nx) (k + 2))).congr (fun _ => rfl) fun t => by show _ + 0 = _; omega
  | i + 1, nx, u, hm, hu => by
    have h := hu (by omega)
    rw [Nat.add_sub_cancel, show k + 1 - (i + 1) = k - i by omega] at h
    unfold chD
    refine (chD_pc hp H k T i _ _ (by omega) fun hi => ?_).trans ?_
    · rw [if_pos hi]
      obtain ⟨q, rfl⟩ : ∃ q, i = q + 1 := ⟨i - 1, by omega⟩
      rw [Nat.add_sub_cancel, show k + 1 - (q + 1) = k - (q + 1) + 1 by omega, Pd_front]
      refine (eqm_pl p 0 u (H (q + 1) q)).trans ?_
      have h1 := h.mul (Eqm.refl (p : Int) (H (q + 1) q : Int))
      obtain ⟨e, he⟩ := h1
      exact ⟨e, by rw [he]; grind⟩
    · obtain ⟨c, hc⟩ : ∃ c, c = ngN p (plN p 0 (H i k) u) := ⟨_, rfl⟩
      rw [← hc]
      have hcm : Eqm (p : Int) (c : Int) (-((H i k : Int) * Pd H i (k - i))) := by
        rw [hc]
        refine (eqm_ng (plN_lt hp _ _ _)).trans (Eqm.neg ?_)
        refine (eqm_pl p 0 (H i k) u).trans ?_
        have h1 := (Eqm.refl (p : Int) (H i k : Int)).mul h
        obtain ⟨e, he⟩ := h1
        exact ⟨e, by rw [he]; grind⟩
      have h1 : Pc (p : Int) (evl (cf fun j => if j < i + 1 then plN p (nx j) (T i j) c else nx j) (k + 2)) (evl (fun j => cf nx j + (c : Int) * (if j < i + 1 then cf (T i) j else 0)) (k + 2)) := Pc.evs _ fun j _ => by
        show Eqm (p : Int) (((if j < i + 1 then plN p (nx j) (T i j) c else nx j) : Nat) : Int) ((nx j : Int) + c * (if j < i + 1 then (T i j : Int) else 0))
        by_cases hj : j < i + 1
        · rw [if_pos hj, if_pos hj, Int.mul_comm]; exact eqm_pl p (nx j) (T i j) c
        · rw [if_neg hj, if_neg hj]; exact ⟨0, by omega⟩
      have h2 : ∀ t, evl (fun j => cf nx j + (c : Int) * (if j < i + 1 then cf (T i) j else 0)) (k + 2) t = evl (cf nx) (k + 2) t + (c : Int) * evl (cf (T i)) (i + 1) t := fun t => by
        have h3 := evl_pad (f := cf (T i)) (d := i + 1) (t := t) (k + 1 - i)
        rw [show i + 1 + (k + 1 - i) = k + 2 by omega] at h3
        rw [evl_add, evl_mul, h3]
      have h3 : Pc (p : Int) (fun t => (c : Int) * evl (cf (T i)) (i + 1) t) (fun t => -((H i k : Int) * Pd H i (k - i)) * evl (cf (T i)) (i + 1) t) := Pc.mul (Pc.num hcm) (Pc.refl _ _) (Pol.num _) ⟨_, _, fun _ => rfl⟩
      have h4 := ((h1.congr (fun _ => rfl) fun t => (h2 t).symm).trans ((Pc.refl (p : Int) (evl (cf nx) (k + 2))).add h3)).add (Pc.refl (p : Int) fun t => si (fun i => -((H i k : Int) * Pd H i (k - i)) * evl (cf (T i)) (i + 1) t) i)
      exact h4.congr (fun _ => rfl) fun t => by
        show evl (cf nx) (k + 2) t + (si (fun i => -((H i k : Int) * Pd H i (k - i)) * evl (cf (T i)) (i + 1) t) i + -((H i k : Int) * Pd H i (k - i)) * evl (cf (T i)) (i + 1) t) = evl (cf nx) (k + 2) t + -((H i k : Int) * Pd H i (k - i)) * evl (cf (T i)) (i + 1) t + si (fun i => -((H i k : Int) * Pd H i (k - i)) * evl (cf (T i)) (i + 1) t) i
        omega
theorem chT_stay (p : Nat) (H : Mf) : ∀ k i, i ≤ k → chT p H k i = chT p H i i
  | 0, i, h => by rw [show i = 0 by omega]
  | k + 1, i, h => by
    by_cases e : i = k + 1
    · rw [e]
    · show (if i = k + 1 then _ else _ : Nat → Nat) = _
      rw [if_neg e]; exact chT_stay p H k i (by omega)
theorem chT_pc {p : Nat} (hp : 0 < p) (H : Mf) (hz : ∀ i j, j + 1 < i → H i j = 0) : ∀ k, Pc (p : Int) (evl (cf (chT p H k k)) (k + 1)) (fun t => Di k (xI t (ci H))) := by
  intro k
  induction k using Nat.strongRecOn with
  | ind k ih =>
    cases k with
    | zero => exact (Pc.refl _ (fun _ => 1)).congr (fun t => by show 0 + ((if 0 = 0 then 1 else 0 : Nat) : Int) * t ^ 0 = 1; simp) fun _ => rfl
    | succ k =>
      rw [chT_self]
      refine (chD_pc hp H k (chT p H k) (k + 1) _ 1 (Nat.le_refl _) fun _ => ?_).trans ?_
      · rw [Nat.sub_self]; exact ⟨0, by simp [Pd]⟩
      have e1 : ∀ t, evl (cf (shf (chT p H k k))) (k + 2) t = t * evl (cf (chT p H k k)) (k + 1) t := fun t => by
        rw [← evl_shift]
        refine si_congr _ fun j _ => ?_
        show ((if j = 0 then 0 else chT p H k k (j - 1) : Nat) : Int) * t ^ j = (if j = 0 then 0 else (chT p H k k (j - 1) : Int)) * t ^ j
        split <;> rfl
      have h1 : Pc (p : Int) (fun t => t * evl (cf (chT p H k k)) (k + 1) t) (fun t => t * Di k (xI t (ci H))) := Pc.mul (Pc.refl _ _) (ih k (by omega)) Pol.var (Pol.det k (fun t => xI t (ci H)) fun i j => xI_pol _ i j)
      have h2 : Pc (p : Int) (fun t => si (fun i => -((H i k : Int) * Pd H i (k - i)) * evl (cf (chT p H k i)) (i + 1) t) (k + 1)) (fun t => si (fun i => -((H i k : Int) * Pd H i (k - i)) * Di i (xI t (ci H))) (k + 1)) :=
        Pc.sum (F := fun i t => -((H i k : Int) * Pd H i (k - i)) * evl (cf (chT p H k i)) (i + 1) t) (G := fun i t => -((H i k : Int) * Pd H i (k - i)) * Di i (xI t (ci H))) (k + 1) fun i hi => by
          rw [chT_stay p H k i (by omega)]
          exact Pc.mul (Pc.refl _ fun _ => -((H i k : Int) * Pd H i (k - i))) (ih i hi) (Pol.num _) (Pol.det i (fun t => xI t (ci H)) fun i j => xI_pol _ i j)
      refine (h1.add h2).congr (fun t => by rw [e1]) fun t => ?_
      have h3 := hes_up (xI t (ci H)) (fun i j hij => by unfold xI ci; rw [if_neg (by omega), hz i j hij]; rfl) k 0
      have e2 : ∀ m, Gd (xI t (ci H)) 0 m = Di m (xI t (ci H)) := fun m => Di_congr m _ _ fun i j _ _ => by rw [Nat.zero_add, Nat.zero_add]
      rw [e2] at h3
      rw [h3]
      have e3 : si (fun i => Gd (xI t (ci H)) 0 i * (xI t (ci H) (0 + i) (0 + k) * Sd (xI t (ci H)) (0 + i) (k - i))) (k + 1) = si (fun i => (if i = k then t * Di k (xI t (ci H)) else 0) + -((H i k : Int) * Pd H i (k - i)) * Di i (xI t (ci H))) (k + 1) := si_congr _ fun i hi => by
        rw [e2, Nat.zero_add, Nat.zero_add, Sd_xI]
        unfold xI ci
        by_cases e : i = k
        · subst e
          rw [if_pos rfl, if_pos rfl, Nat.sub_self]
          show _ * ((t - (H i i : Int)) * 1) = _ + -((H i i : Int) * 1) * _
          grind
        · rw [if_neg e, if_neg e]; grind
      rw [e3, si_add, si_one (k := k) (by omega) fun i _ hne => if_neg hne, if_pos rfl]
end
section
open Go.RowKit
end
section
section Ring
variable {z9 : Nat} [NeZero z9]

def sm (f : Nat → Fin z9) : Nat → Fin z9
  | 0 => 0
  | n + 1 => sm f n + f n

theorem sm_congr {f g : Nat → Fin z9} (n : Nat) (h : ∀ i, i < n → f i = g i) : sm f n = sm g n := by
  induction n with
  | zero => rfl
  | succ n ih => simp only [sm, ih (fun i hi => h i (by omega)), h n (by omega)]
theorem sm_add (f g : Nat → Fin z9) (n : Nat) : sm (fun i => f i + g i) n = sm f n + sm g n := by
  induction n with
  | zero => simp only [sm]; grind
  | succ n ih => simp only [sm, ih]; grind
theorem sm_mul (c : Fin z9) (f : Nat → Fin z9) (n : Nat) : sm (fun i => c * f i) n = c * sm f n := by
  induction n with
  | zero => simp only [sm]; grind
  | succ n ih => simp only [sm, ih]; grind
theorem sm_split (f : Nat → Fin z9) (a b : Nat) : sm f (a + b) = sm f a + sm (fun i => f (a + i)) b := by
  induction b with
  | zero => simp only [sm, Nat.add_zero]; grind
  | succ n ih => rw [← Nat.add_assoc]; simp only [sm, ih]; grind
theorem sm_zero (n : Nat) : sm (fun _ => (0 : Fin z9)) n = 0 := by
  induction n with
  | zero => rfl
  | succ n ih => simp only [sm, ih]; grind

end Ring
end
section
section Lin
variable {z9 : Nat} [NeZero z9]

theorem sm_comm (f : Nat → Nat → Fin z9) (m n : Nat) : sm (fun i => sm (fun j => f i j) m) n = sm (fun j => sm (fun i => f i j) n) m := by
  induction n with
  | zero => simp only [sm]; rw [sm_zero]
  | succ n ih => simp only [sm, ih]; rw [← sm_add]
theorem sm_mulr (c : Fin z9) (f : Nat → Fin z9) (n : Nat) : sm (fun i => f i * c) n = sm f n * c := by
  rw [show sm f n * c = c * sm f n from by grind, ← sm_mul]
  exact sm_congr n fun i _ => by grind
theorem sm_none {f : Nat → Fin z9} (n : Nat) (h : ∀ i, i < n → f i = 0) : sm f n = 0 := by
  rw [sm_congr (g := fun _ => (0 : Fin z9)) n h, sm_zero]
theorem sm_one {f : Nat → Fin z9} {n k : Nat} (hk : k < n) (h : ∀ i, i < n → i ≠ k → f i = 0) : sm f n = f k := by
  induction n with
  | zero => omega
  | succ n ih =>
    simp only [sm]
    by_cases e : k = n
    · subst e
      rw [sm_none k (fun i hi => h i (by omega) (by omega))]; grind
    · rw [ih (by omega) (fun i hi hne => h i (by omega) hne), h n (by omega) (by omega)]; grind
/-- All numbers but k. -/
def skip (k i : Nat) : Nat := if i < k then i else i + 1
/-- v is a combination of the first n rows. -/
def LC (n : Nat) (N : Nat → Nat → Fin z9) (v : Nat → Fin z9) : Prop := ∃ F : Nat → Fin z9, ∀ j, v j = sm (fun k => F k * N k j) n
theorem LC.row {n k : Nat} (N : Nat → Nat → Fin z9) (hk : k < n) : LC n N (N k) := ⟨fun i => if i = k then 1 else 0, fun j => by
  rw [sm_one hk (fun i _ hne => by simp only [if_neg hne]; grind)]
  simp only [if_true]; grind⟩
theorem LC.add {n : Nat} {N : Nat → Nat → Fin z9} {u v : Nat → Fin z9} (hu : LC n N u) (hv : LC n N v) (c d : Fin z9) : LC n N (fun j => c * u j + d * v j) := by
  obtain ⟨F, hF⟩ := hu
  obtain ⟨G, hG⟩ := hv
  refine ⟨fun k => c * F k + d * G k, fun j => ?_⟩
  show c * u j + d * v j = _
  rw [hF, hG, ← sm_mul, ← sm_mul, ← sm_add]
  exact sm_congr n fun i _ => by grind
theorem LC.congr {n : Nat} {N : Nat → Nat → Fin z9} {u v : Nat → Fin z9} (hu : LC n N u) (h : ∀ j, v j = u j) : LC n N v := by
  obtain ⟨F, hF⟩ := hu
  exact ⟨F, fun j => (h j).trans (hF j)⟩
theorem LC.trans {n m : Nat} {N N' : Nat → Nat → Fin z9} {v : Nat → Fin z9} (hv : LC n N v) (h : ∀ k, k < n → LC m N' (N k)) : LC m N' v := by
  obtain ⟨F, hF⟩ := hv
  have : ∃ G : Nat → Nat → Fin z9, ∀ k, k < n → ∀ j, N k j = sm (fun i => G k i * N' i j) m := by
    refine ⟨fun k => if hk : k < n then (h k hk).choose else fun _ => 0, fun k hk j => ?_⟩
    simp only [dif_pos hk]
    exact (h k hk).choose_spec j
  obtain ⟨G, hG⟩ := this
  refine ⟨fun i => sm (fun k => F k * G k i) n, fun j => ?_⟩
  rw [hF]
  have e1 : sm (fun k => F k * N k j) n = sm (fun k => sm (fun i => F k * G k i * N' i j) m) n := sm_congr n fun k hk => by
    rw [hG k hk j, ← sm_mul]
    exact sm_congr m fun i _ => by grind
  rw [e1, sm_comm]
  exact sm_congr m fun i _ => by rw [← sm_mulr]
/-- Rows behind r that are nought are not wanted. -/
theorem LC.cut {n r : Nat} {N : Nat → Nat → Fin z9} {v : Nat → Fin z9} (h : LC n N v) (hr : r ≤ n) (hz : ∀ i, r ≤ i → ∀ j, N i j = 0) : LC r N v := by
  obtain ⟨F, hF⟩ := h
  refine ⟨F, fun j => ?_⟩
  rw [hF, show n = r + (n - r) from by omega, sm_split, sm_none (n - r) (fun i _ => by rw [hz (r + i) (by omega)]; grind)]
  grind
end Lin
end
end Go.Proofs.YtbafiahmcfkboaaDoor
