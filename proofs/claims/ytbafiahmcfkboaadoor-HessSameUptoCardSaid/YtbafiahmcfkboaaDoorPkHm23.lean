/- Polynomials as functions on the integers; what is the same modulo p, coefficient by coefficient. No conditions. The determinant of a matrix with noughts below the diagonal beneath the diagonal, by its first rows and columns. No conditions. Matrices in memory: rows that are read, rows of one's own. No conditions. The contracts of columns and made, and of what makes rows. Conditions: made: the entries come from a function that only draws. -/
import Derived.Test.YtbafiahmcfkboaaDoorPkHm22
import Derived.Test.YtbafiahmcfkboaaDoorPkHm11
import Derived.Test.YtbafiahmcfkboaaDoorRows
namespace Go.Proofs.YtbafiahmcfkboaaDoor
section
def evl (f : Nat → Int) (d : Nat) (t : Int) : Int := si (fun j => f j * t ^ j) d
theorem evl_pad {f : Nat → Int} {d : Nat} {t : Int} : ∀ e, evl (fun j => if j < d then f j else 0) (d + e) t = evl f d t
  | 0 => si_congr d fun j hj => by
    show (if j < d then f j else 0) * t ^ j = f j * t ^ j
    rw [if_pos hj]
  | e + 1 => by
    show evl (fun j => if j < d then f j else 0) (d + e) t + (if d + e < d then f (d + e) else 0) * t ^ (d + e) = _
    rw [evl_pad e, if_neg (by omega)]; omega
theorem evl_add (f g : Nat → Int) (d : Nat) (t : Int) : evl (fun j => f j + g j) d t = evl f d t + evl g d t := by
  unfold evl; rw [← si_add]; exact si_congr d fun j _ => by grind
theorem evl_mul (c : Int) (f : Nat → Int) (d : Nat) (t : Int) : evl (fun j => c * f j) d t = c * evl f d t := by
  unfold evl; rw [← si_mul]; exact si_congr d fun j _ => by grind
theorem evl_shift (f : Nat → Int) (d : Nat) (t : Int) : evl (fun j => if j = 0 then 0 else f (j - 1)) (d + 1) t = t * evl f d t := by
  unfold evl
  rw [si_front, ← si_mul]
  simp only [if_true, Int.zero_mul, Int.zero_add]
  refine si_congr d fun j _ => ?_
  rw [if_neg (by omega), Nat.add_sub_cancel, Int.pow_succ]; grind
/-- A polynomial with integer coefficients. -/
def Pol (F : Int → Int) : Prop := ∃ d f, ∀ t, F t = evl f d t
theorem Pol.congr {F G : Int → Int} (h : Pol F) (e : ∀ t, G t = F t) : Pol G := by
  obtain ⟨d, f, hf⟩ := h
  exact ⟨d, f, fun t => (e t).trans (hf t)⟩
theorem Pol.add {F G : Int → Int} (hF : Pol F) (hG : Pol G) : Pol (fun t => F t + G t) := by
  obtain ⟨d, f, hf⟩ := hF
  obtain ⟨e, g, hg⟩ := hG
  refine ⟨d + e, fun j => (if j < d then f j else 0) + (if j < e then g j else 0), fun t => ?_⟩
  have h1 := evl_pad (f := g) (d := e) (t := t) d
  rw [Nat.add_comm e d] at h1
  show F t + G t = _
  rw [evl_add, evl_pad, h1, hf, hg]
theorem Pol.smul {F : Int → Int} (hF : Pol F) (c : Int) : Pol (fun t => c * F t) := by
  obtain ⟨d, f, hf⟩ := hF
  exact ⟨d, fun j => c * f j, fun t => by show c * F t = _; rw [evl_mul, hf]⟩
theorem Pol.shift {F : Int → Int} (hF : Pol F) : Pol (fun t => t * F t) := by
  obtain ⟨d, f, hf⟩ := hF
  exact ⟨d + 1, _, fun t => by show t * F t = _; rw [evl_shift, hf]⟩
theorem Pol.num (c : Int) : Pol (fun _ => c) := ⟨1, fun _ => c, fun t => by simp [evl, si]⟩
theorem Pol.var : Pol (fun t => t) := (Pol.num 1).shift.congr fun t => by omega
theorem Pol.pow {F : Int → Int} (hF : Pol F) : ∀ j : Nat, Pol (fun t => t ^ j * F t)
  | 0 => hF.congr fun t => by rw [Int.pow_zero]; omega
  | j + 1 => (Pol.pow hF j).shift.congr fun t => by rw [Int.pow_succ]; grind
theorem Pol.mul {F G : Int → Int} (hF : Pol F) (hG : Pol G) : Pol (fun t => F t * G t) := by
  obtain ⟨d, f, hf⟩ := hF
  have key : ∀ d : Nat, Pol (fun t => evl f d t * G t) := by
    intro d
    induction d with
    | zero => exact (Pol.num 0).congr fun t => by simp [evl, si]
    | succ d ih =>
      refine (ih.add ((hG.pow d).smul (f d))).congr fun t => ?_
      show (evl f d t + f d * t ^ d) * G t = evl f d t * G t + f d * (t ^ d * G t)
      grind
  exact (key d).congr fun t => by rw [hf]
theorem Pol.sum {F : Nat → Int → Int} (n : Nat) (h : ∀ i, i < n → Pol (F i)) : Pol (fun t => si (fun i => F i t) n) := by
  induction n with
  | zero => exact Pol.num 0
  | succ n ih => exact (ih fun i hi => h i (by omega)).add (h n (by omega))
theorem Pol.det : ∀ (n : Nat) (A : Int → Nat → Nat → Int), (∀ i j, Pol (fun t => A t i j)) → Pol (fun t => Di n (A t))
  | 0, _, _ => Pol.num 1
  | n + 1, A, h => Pol.sum (F := fun i t => sgi i * A t i 0 * Di n (fun a b => A t (hop i a) (b + 1))) (n + 1) fun i _ => ((h i 0).smul (sgi i)).mul (Pol.det n (fun t a b => A t (hop i a) (b + 1)) fun a b => h (hop i a) (b + 1))

/-- The same modulo p, coefficient by coefficient. -/
def Pc (p : Int) (F G : Int → Int) : Prop := ∃ E, Pol E ∧ ∀ t, F t = G t + p * E t
section
variable {p : Int} {F G F2 G2 K : Int → Int}
theorem Pc.refl (p : Int) (F : Int → Int) : Pc p F F := ⟨fun _ => 0, Pol.num 0, fun t => by show F t = F t + p * 0; omega⟩
theorem Pc.symm (h : Pc p F G) : Pc p G F := by
  obtain ⟨E, hE, h⟩ := h
  exact ⟨fun t => -1 * E t, hE.smul _, fun t => by rw [h]; grind⟩
theorem Pc.trans (h : Pc p F G) (h2 : Pc p G K) : Pc p F K := by
  obtain ⟨E, hE, h⟩ := h
  obtain ⟨E2, hE2, h2⟩ := h2
  exact ⟨fun t => E2 t + E t, hE2.add hE, fun t => by rw [h, h2]; grind⟩
theorem Pc.congr (h : Pc p F G) (e : ∀ t, F2 t = F t) (e2 : ∀ t, G2 t = G t) : Pc p F2 G2 := by
  obtain ⟨E, hE, h⟩ := h
  exact ⟨E, hE, fun t => by rw [e, e2, h]⟩
theorem Pc.add (h : Pc p F G) (h2 : Pc p F2 G2) : Pc p (fun t => F t + F2 t) (fun t => G t + G2 t) := by
  obtain ⟨E, hE, h⟩ := h
  obtain ⟨E2, hE2, h2⟩ := h2
  exact ⟨fun t => E t + E2 t, hE.add hE2, fun t => by show F t + F2 t = G t + G2 t + p * (E t + E2 t); rw [h, h2]; grind⟩
theorem Pc.mul (h : Pc p F G) (h2 : Pc p F2 G2) (hG : Pol G) (hG2 : Pol G2) : Pc p (fun t => F t * F2 t) (fun t => G t * G2 t) := by
  obtain ⟨E, hE, h⟩ := h
  obtain ⟨E2, hE2, h2⟩ := h2
  exact ⟨fun t => (E t * G2 t + G t * E2 t) + p * (E t * E2 t), ((hE.mul hG2).add (hG.mul hE2)).add ((hE.mul hE2).smul p), fun t => by show F t * F2 t = G t * G2 t + p * ((E t * G2 t + G t * E2 t) + p * (E t * E2 t)); rw [h, h2]; grind⟩
theorem Pc.num {c d : Int} (h : ∃ e, c = d + p * e) : Pc p (fun _ => c) (fun _ => d) := by
  obtain ⟨e, rfl⟩ := h
  exact ⟨fun _ => e, Pol.num e, fun _ => rfl⟩
theorem Pc.sum {F G : Nat → Int → Int} (n : Nat) (h : ∀ i, i < n → Pc p (F i) (G i)) : Pc p (fun t => si (fun i => F i t) n) (fun t => si (fun i => G i t) n) := by
  induction n with
  | zero => exact Pc.refl _ _
  | succ n ih => exact (ih fun i hi => h i (by omega)).add (h n (by omega))
theorem Pc.det : ∀ (n : Nat) (A B : Int → Nat → Nat → Int), (∀ i j, Pc p (fun t => A t i j) (fun t => B t i j)) → (∀ i j, Pol (fun t => B t i j)) → Pc p (fun t => Di n (A t)) (fun t => Di n (B t))
  | 0, _, _, _, _ => Pc.refl _ _
  | n + 1, A, B, h, hB => Pc.sum (F := fun i t => sgi i * A t i 0 * Di n (fun a b => A t (hop i a) (b + 1))) (G := fun i t => sgi i * B t i 0 * Di n (fun a b => B t (hop i a) (b + 1))) (n + 1) fun i _ =>
    Pc.mul (F := fun t => sgi i * A t i 0) (G := fun t => sgi i * B t i 0) (F2 := fun t => Di n (fun a b => A t (hop i a) (b + 1))) (G2 := fun t => Di n (fun a b => B t (hop i a) (b + 1))) ((Pc.refl p fun _ => sgi i).mul (h i 0) (Pol.num _) (hB i 0)) (Pc.det n (fun t a b => A t (hop i a) (b + 1)) (fun t a b => B t (hop i a) (b + 1)) (fun _ _ => h _ _) fun _ _ => hB _ _) ((hB i 0).smul _) (Pol.det n (fun t a b => B t (hop i a) (b + 1)) fun _ _ => hB _ _)
theorem Pc.evs {f g : Nat → Int} (d : Nat) (h : ∀ j, j < d → ∃ e, f j = g j + p * e) : Pc p (evl f d) (evl g d) := by
  have := Pc.sum (F := fun j t => f j * t ^ j) (G := fun j t => g j * t ^ j) d fun j hj => Pc.mul (F := fun _ => f j) (G := fun _ => g j) (F2 := fun t => t ^ j) (G2 := fun t => t ^ j) (Pc.num (h j hj)) (Pc.refl _ _) (Pol.num _) (((Pol.num 1).pow j).congr fun t => by omega)
  exact this
end
/-- A polynomial that is nought at all places above 0 has no coefficients. -/
theorem evl_nought : ∀ (d : Nat) (f : Nat → Int), (∀ t, 0 < t → evl f d t = 0) → ∀ j, j < d → f j = 0
  | 0, _, _, _, hj => absurd hj (Nat.not_lt_zero _)
  | d + 1, f, h, j, hj => by
    have hs : ∀ t, evl f (d + 1) t = f 0 + t * evl (fun j => f (j + 1)) d t := fun t => by
      unfold evl
      rw [si_front, ← si_mul, Int.pow_zero, Int.mul_one]
      congr 1
      exact si_congr d fun j _ => by rw [Int.pow_succ]; grind
    have h0 : f 0 = 0 := by
      have h1 := h (((f 0).natAbs : Int) + 1) (by omega)
      rw [hs] at h1
      obtain ⟨q, hq⟩ : ∃ q, q = evl (fun j => f (j + 1)) d (((f 0).natAbs : Int) + 1) := ⟨_, rfl⟩
      rw [← hq] at h1
      -- f 0 is a multiple of a number that is greater in size
      have hd : (((f 0).natAbs : Int) + 1) ∣ f 0 := ⟨-q, by grind⟩
      refine Classical.byContradiction fun hne => ?_
      have h2 := Nat.le_of_dvd (by omega) (Int.natAbs_dvd_natAbs.2 hd)
      omega
    cases j with
    | zero => exact h0
    | succ j =>
      refine evl_nought d (fun j => f (j + 1)) (fun t ht => ?_) j (by omega)
      have h1 := h t ht
      rw [hs, h0] at h1
      have h2 : t * evl (fun j => f (j + 1)) d t = 0 := by omega
      rcases Int.mul_eq_zero.1 h2 with h3 | h3
      · omega
      · exact h3
theorem Pc.coef {p : Int} {f g : Nat → Int} {d : Nat} (h : Pc p (evl f d) (evl g d)) (j : Nat) (hj : j < d) : ∃ e, f j = g j + p * e := by
  obtain ⟨E, ⟨d2, e, hE⟩, h⟩ := h
  have h1 := evl_nought (d + d2) (fun j => ((if j < d then f j else 0) + -1 * (if j < d then g j else 0)) + (-p) * (if j < d2 then e j else 0)) (fun t _ => by
    have h2 := evl_pad (f := e) (d := d2) (t := t) d
    rw [Nat.add_comm d2 d] at h2
    rw [evl_add, evl_add, evl_mul, evl_mul, evl_pad, evl_pad, h2, h t, hE]; grind) j (by omega)
  refine ⟨if j < d2 then e j else 0, ?_⟩
  simp only [if_pos hj] at h1
  grind
end
section
theorem si_tri (f : Nat → Nat → Int) : ∀ m, si (fun j => si (fun i => f j i) (m - j)) m = si (fun k => si (fun j => f j (k - j)) (k + 1)) m
  | 0 => rfl
  | m + 1 => by
    have e : si (fun j => si (fun i => f j i) (m + 1 - j)) m = si (fun j => si (fun i => f j i) (m - j) + f j (m - j)) m := si_congr m fun j hj => by
      rw [show m + 1 - j = (m - j) + 1 by omega]; rfl
    show si (fun j => si (fun i => f j i) (m + 1 - j)) m + si (fun i => f m i) (m + 1 - m) = si (fun k => si (fun j => f j (k - j)) (k + 1)) m + (si (fun j => f j (m - j)) m + f m (m - m))
    rw [e, si_add, si_tri f m, show m + 1 - m = 0 + 1 by omega, show m - m = 0 by omega]
    show _ + (0 + f m 0) = _
    omega
section
variable (A : Nat → Nat → Int)
/-- The determinant of m rows and columns from a on. -/
def Gd (a m : Nat) : Int := Di m (fun i j => A (a + i) (a + j))
def Sd (a : Nat) : Nat → Int
  | 0 => 1
  | j + 1 => Sd a j * - A (a + j + 1) (a + j)
theorem Sd_front (a : Nat) : ∀ j, Sd A a (j + 1) = - A (a + 1) a * Sd A (a + 1) j
  | 0 => by show 1 * - A (a + 0 + 1) (a + 0) = - A (a + 1) a * 1; simp
  | j + 1 => by
    show Sd A a (j + 1) * - A (a + (j + 1) + 1) (a + (j + 1)) = - A (a + 1) a * (Sd A (a + 1) j * - A (a + 1 + j + 1) (a + 1 + j))
    rw [Sd_front a j, show a + (j + 1) = a + 1 + j by omega]; grind
variable (hA : ∀ i j, j + 1 < i → A i j = 0)
include hA
/-- With any first row. -/
theorem hes_row : ∀ (m a : Nat) (u : Nat → Int), Di (m + 1) (rep (fun i j => A (a + i) (a + j)) 0 u) = si (fun j => u j * Sd A a j * Gd A (a + j + 1) (m - j)) (m + 1)
  | 0, a, u => by
    show 0 + sgi 0 * rep (fun i j => A (a + i) (a + j)) 0 u 0 0 * 1 = 0 + u 0 * 1 * 1
    unfold rep; rw [if_pos rfl]; simp [sgi]
  | m + 1, a, u => by
    have ih := hes_row m (a + 1) (fun j => u (j + 1))
    have e0 : (fun x y => rep (fun i j => A (a + i) (a + j)) 0 u (hop 0 x) (y + 1)) = fun i j => A (a + 1 + i) (a + 1 + j) := by
      funext x y
      unfold rep hop
      rw [if_neg (Nat.not_lt_zero x), if_neg (Nat.succ_ne_zero x)]
      show A (a + (x + 1)) (a + (y + 1)) = _
      rw [show a + (x + 1) = a + 1 + x by omega, show a + (y + 1) = a + 1 + y by omega]
    have e1 : (fun x y => rep (fun i j => A (a + i) (a + j)) 0 u (hop 1 x) (y + 1)) = rep (fun i j => A (a + 1 + i) (a + 1 + j)) 0 (fun j => u (j + 1)) := by
      funext x y
      unfold rep hop
      by_cases h : x = 0
      · subst h; simp
      · rw [if_neg (show ¬ x < 1 by omega), if_neg (Nat.succ_ne_zero x), if_neg h]
        show A (a + (x + 1)) (a + (y + 1)) = _
        rw [show a + (x + 1) = a + 1 + x by omega, show a + (y + 1) = a + 1 + y by omega]
    show si (fun i => sgi i * rep (fun i j => A (a + i) (a + j)) 0 u i 0 * Di (m + 1) (fun x y => rep (fun i j => A (a + i) (a + j)) 0 u (hop i x) (y + 1))) (m + 1 + 1) = _
    rw [si_two (k := 0) (by omega) fun i hi h1 h2 => ?_]
    · rw [e0, e1, ih, si_front (fun j => u j * Sd A a j * Gd A (a + j + 1) (m + 1 - j)) (m + 1), ← si_mul]
      congr 1
      · show 1 * rep (fun i j => A (a + i) (a + j)) 0 u 0 0 * Di (m + 1) (fun i j => A (a + 1 + i) (a + 1 + j)) = u 0 * 1 * Di (m + 1) (fun i j => A (a + 1 + i) (a + 1 + j))
        unfold rep; rw [if_pos rfl]; grind
      · refine si_congr _ fun j hj => ?_
        rw [Sd_front, show a + 1 + j + 1 = a + (j + 1) + 1 by omega, show m + 1 - (j + 1) = m - j by omega]
        have e2 : rep (fun i j => A (a + i) (a + j)) 0 u (0 + 1) 0 = A (a + 1) a := by unfold rep; rw [if_neg (by omega)]; rfl
        rw [e2]
        show - 1 * A (a + 1) a * _ = _
        grind
    · have e2 : rep (fun i j => A (a + i) (a + j)) 0 u i 0 = 0 := by
        unfold rep; rw [if_neg h1]; exact hA _ _ (by omega)
      rw [e2]; grind
/-- By the first row. -/
theorem hes_down (m a : Nat) : Gd A a (m + 1) = si (fun j => A a (a + j) * Sd A a j * Gd A (a + j + 1) (m - j)) (m + 1) := by
  have h := hes_row A hA m a (fun j => A a (a + j))
  have e : rep (fun i j => A (a + i) (a + j)) 0 (fun j => A a (a + j)) = fun i j => A (a + i) (a + j) := by
    funext i j
    unfold rep
    split
    · rename_i h; rw [h]; rfl
    · rfl
  rw [e] at h
  exact h
/-- By the last column. -/
theorem hes_up : ∀ (m a : Nat), Gd A a (m + 1) = si (fun i => Gd A a i * (A (a + i) (a + m) * Sd A (a + i) (m - i))) (m + 1) := by
  intro m
  induction m using Nat.strongRecOn with
  | ind m ih =>
    intro a
    rw [hes_down A hA m a]
    have e1 : ∀ j, j < m → A a (a + j) * Sd A a j * Gd A (a + j + 1) (m - j) = si (fun i => A a (a + j) * Sd A a j * (Gd A (a + j + 1) i * (A (a + (j + i + 1)) (a + m) * Sd A (a + (j + i + 1)) (m - (j + i + 1))))) (m - j) := fun j hj => by
      have h := ih (m - j - 1) (by omega) (a + j + 1)
      rw [show m - j - 1 + 1 = m - j by omega] at h
      rw [h, ← si_mul]
      refine si_congr _ fun i hi => ?_
      rw [show a + j + 1 + i = a + (j + i + 1) by omega, show a + j + 1 + (m - j - 1) = a + m by omega, show m - j - 1 - i = m - (j + i + 1) by omega]
    show si (fun j => A a (a + j) * Sd A a j * Gd A (a + j + 1) (m - j)) m + A a (a + m) * Sd A a m * Gd A (a + m + 1) (m - m) = _
    rw [si_congr m e1, si_tri (fun j i => A a (a + j) * Sd A a j * (Gd A (a + j + 1) i * (A (a + (j + i + 1)) (a + m) * Sd A (a + (j + i + 1)) (m - (j + i + 1))))) m, si_front]
    have e2 : ∀ k, k < m → si (fun j => A a (a + j) * Sd A a j * (Gd A (a + j + 1) (k - j) * (A (a + (j + (k - j) + 1)) (a + m) * Sd A (a + (j + (k - j) + 1)) (m - (j + (k - j) + 1))))) (k + 1) = Gd A a (k + 1) * (A (a + (k + 1)) (a + m) * Sd A (a + (k + 1)) (m - (k + 1))) := fun k hk => by
      rw [hes_down A hA k a, Int.mul_comm, ← si_mul]
      refine si_congr _ fun j hj => ?_
      rw [show j + (k - j) + 1 = k + 1 by omega]; grind
    rw [si_congr m e2, show m - m = 0 by omega]
    show _ + A a (a + m) * Sd A a m * 1 = 1 * (A a (a + m) * Sd A a (m - 0)) + _
    rw [Nat.sub_zero]
    grind
end
end
section
open Go.RowKit

/-- Among the blocks that are there, block g alone has turned; new ones may lie behind. -/
structure Tn (g : Nat) (w w' : World) : Prop where
  os : w'.os = w.os
  tape : w'.tape = w.tape
  output : w'.output = w.output
  size : w.heap.size ≤ w'.heap.size
  block : ∀ k, k < w.heap.size → k ≠ g → w'.heap[k]? = w.heap[k]?
theorem Tn.refl (g : Nat) (w : World) : Tn g w w := ⟨rfl, rfl, rfl, Nat.le_refl _, fun _ _ _ => rfl⟩
theorem Tn.trans {g : Nat} {a b c : World} (h : Tn g a b) (k : Tn g b c) : Tn g a c :=
  ⟨k.os.trans h.os, k.tape.trans h.tape, k.output.trans h.output, Nat.le_trans h.size k.size, fun i hi hg => (k.block i (Nat.lt_of_lt_of_le hi h.size) hg).trans (h.block i hi hg)⟩
theorem Tn.of_below {g B : Nat} {w w' : World} (h : Below B w w') (hB : w.heap.size ≤ B) : Tn g w w' := ⟨h.os, h.tape, h.output, h.size, fun k hk _ => h.block k (by omega)⟩
theorem Tn.drewN {g : Nat} {a w : World} (h : Tn g a w) (n : Nat) : Tn g a (w.drewN n) := ⟨h.os, h.tape, h.output, h.size, h.block⟩
theorem Tn.drew {g : Nat} {a w : World} (h : Tn g a w) : Tn g a w.drew := ⟨h.os, h.tape, h.output, h.size, h.block⟩
theorem Tn.setCell {g : Nat} {a w : World} (h : Tn g a w) (i : Nat) (u : Value) : Tn g a (w.setCell ⟨g, i, none⟩ u) :=
  h.trans ⟨rfl, rfl, rfl, by simp [World.setCell], fun k _ hk => Below.heap_setCell _ _ _ _ hk⟩
theorem Tn.below {g B : Nat} {w w' : World} (h : Tn g w w') (hB : B ≤ g) (hs : B ≤ w.heap.size) : Below B w w' := ⟨h.os, h.tape, h.output, h.size, fun k hk => h.block k (by omega) (by omega)⟩
theorem Tn.cell {g : Nat} {w w' : World} (h : Tn g w w') {p : Addr} (hp : p.block < w.heap.size) (hne : p.block ≠ g) : w'.cell? p = w.cell? p := World.cell?_of_block (h.block p.block hp hne)
theorem Blk.tn {w w' : World} {g h : Nat} {t : TypeId} {vs : List Value} (hb : Blk w g t vs) (hc : Tn h w w') (hne : g ≠ h) : Blk w' g t vs := (hc.block g hb.lt hne).trans hb
/-- What a call hands back: a slice at the head of a row of its own, from block B on, whose first cells are vs. -/
def Res (w : World) (B : Nat) (t : TypeId) (A : Option Addr) (c : Nat) (vs : List Value) : Prop :=
  vs.length ≤ c ∧ vs.length ≤ 281474976710656 ∧ (vs ≠ [] → ∃ g rest, A = some ⟨g, 0, none⟩ ∧ B ≤ g ∧ Blk w g t (vs ++ rest) ∧ vs.length + rest.length = c)

section
variable {w w' : World} {B B' : Nat} {t : TypeId} {A : Option Addr} {c : Nat} {vs : List Value}
theorem Res.rd (h : Res w B t A c vs) : Rd w w.heap.size A vs := fun hn => by
  obtain ⟨g, rest, rfl, _, hb, _⟩ := h.2.2 hn
  exact Rd.of_blk hb hb.lt 0 (fun k v hv => by
    rw [Nat.zero_add, List.getElem?_append_left (List.getElem?_eq_some_iff.1 hv).1]; exact hv) hn
theorem Res.none_ : Res w B t none 0 [] := ⟨by simp, by simp, fun h => absurd rfl h⟩
theorem Res.below (h : Res w B t A c vs) (hb : Below B' w w') (hB : w.heap.size ≤ B') : Res w' B t A c vs := ⟨h.1, h.2.1, fun hn => by
  obtain ⟨g, rest, e, hg, hk, hc⟩ := h.2.2 hn
  exact ⟨g, rest, e, hg, hk.below hb (by have := hk.lt; omega), hc⟩⟩
theorem Res.keepBut (h : Res w B t A c vs) {g : Nat} (hc : Tn g w w') (hne : vs ≠ [] → A ≠ some ⟨g, 0, none⟩) : Res w' B t A c vs := ⟨h.1, h.2.1, fun hn => by
  obtain ⟨k, rest, e, hg, hk, hcc⟩ := h.2.2 hn
  exact ⟨k, rest, e, hg, hk.tn hc (fun e2 => hne hn (by rw [e, e2])), hcc⟩⟩
theorem Res.mono (h : Res w B t A c vs) (hB : B' ≤ B) : Res w B' t A c vs := ⟨h.1, h.2.1, fun hn => by
  obtain ⟨g, rest, e, hg, hk, hc⟩ := h.2.2 hn
  exact ⟨g, rest, e, by omega, hk, hc⟩⟩
theorem Res.take (h : Res w B t A c vs) (n : Nat) : Res w B t A c (vs.take n) := ⟨by rw [List.length_take]; have := h.1; omega, by rw [List.length_take]; have := h.2.1; omega, fun hn => by
  obtain ⟨g, rest, e, hg, hk, hc⟩ := h.2.2 (by rintro rfl; simp at hn)
  exact ⟨g, vs.drop n ++ rest, e, hg, by rw [← List.append_assoc, List.take_append_drop]; exact hk, by rw [List.length_append, List.length_take, List.length_drop]; omega⟩⟩
theorem Res.of_blk {g : Nat} {rest : List Value} (h : Blk w g t (vs ++ rest)) (hg : B ≤ g) (hc : vs.length + rest.length = c) (hm : vs.length ≤ 281474976710656) : Res w B t (some ⟨g, 0, none⟩) c vs :=
  ⟨by omega, hm, fun _ => ⟨g, rest, rfl, hg, h, hc⟩⟩
theorem Res.of_blk0 {g : Nat} (h : Blk w g t vs) (hg : B ≤ g) (hm : vs.length ≤ 281474976710656) : Res w B t (some ⟨g, 0, none⟩) vs.length vs :=
  Res.of_blk (rest := []) (by simpa using h) hg (by simp) hm
end

/-- The blocks from V on, below U, are as they were. -/
def Mid (V U : Nat) (w w' : World) : Prop := ∀ k, V ≤ k → k < U → w'.heap[k]? = w.heap[k]?
theorem Mid.refl (V U : Nat) (w : World) : Mid V U w w := fun _ _ _ => rfl
theorem Mid.tn {V U k : Nat} {a w w' : World} (h : Mid V U a w) (ht : Tn k w w') (hk : k < V) (hU : U ≤ w.heap.size) : Mid V U a w' := fun i h1 h2 => (ht.block i (by omega) (by omega)).trans (h i h1 h2)
theorem Mid.below {V U B : Nat} {a w w' : World} (h : Mid V U a w) (hb : Below B w w') (hU : U ≤ B) : Mid V U a w' := fun i h1 h2 => (hb.block i (by omega)).trans (h i h1 h2)
theorem Blk.mid {V U : Nat} {w w' : World} {g : Nat} {t : TypeId} {vs : List Value} (hb : Blk w g t vs) (h : Mid V U w w') (h1 : V ≤ g) (h2 : g < U) : Blk w' g t vs := (h g h1 h2).trans hb
theorem u32s_ne {xs : List Nat} {k : Nat} (h : k < xs.length) : u32s xs ≠ [] := by intro e; have := u32s_length xs; rw [e] at this; simp at this; omega
theorem u32s_nil_iff {xs : List Nat} : u32s xs = [] ↔ xs = [] := by simp [u32s]
theorem u32s_set (xs : List Nat) (i x : Nat) : (u32s xs).set i (Value.int .u32 (x : Int)) = u32s (xs.set i x) := by simp [u32s, List.map_set]
theorem u32s_snoc (xs : List Nat) (x : Nat) : u32s (xs ++ [x]) = u32s xs ++ [Value.int .u32 (x : Int)] := by simp [u32s]
theorem Rd.at32 {w : World} {B : Nat} {A : Option Addr} {xs : List Nat} (h : Rd w B A (u32s xs)) {k : Nat} (hk : k < xs.length) : ∃ b off, A = some ⟨b, off, none⟩ ∧ b < B ∧ w.cell? ⟨b, off + k, none⟩ = some (.int .u32 (xs[k] : Nat)) := by
  obtain ⟨b, off, e, hb, hc⟩ := h (u32s_ne hk)
  exact ⟨b, off, e, hb, hc k _ (u32s_at hk)⟩

/-- How many columns. -/
def cols : List (List Nat) → Nat
  | [] => 0
  | r :: _ => r.length
/-- Every row is as long as the first. -/
def Rect (M : List (List Nat)) : Prop := ∀ r ∈ M, r.length = cols M
theorem Rect.at_ {M : List (List Nat)} (h : Rect M) (i : Nat) (hi : i < M.length) : M[i].length = cols M := h _ (List.getElem_mem hi)
def DigM (b : Nat) (M : List (List Nat)) : Prop := ∀ r ∈ M, ∀ x ∈ r, x < b
theorem DigM.at_ {b : Nat} {M : List (List Nat)} (h : DigM b M) {i k : Nat} (hi : i < M.length) (hk : k < M[i].length) : M[i][k] < b := h _ (List.getElem_mem hi) _ (List.getElem_mem hk)
theorem cols_eq (M : List (List Nat)) (h : 0 < M.length) : cols M = M[0].length := by
  cases M with
  | nil => simp at h
  | cons _ _ => rfl

/-- A slice of rows reads as these, all of it below block B; rows no longer than any slice can be. -/
def RdM (w : World) (B : Nat) (A : Option Addr) (M : List (List Nat)) : Prop :=
  M ≠ [] → ∃ b off, A = some ⟨b, off, none⟩ ∧ b < B ∧ ∀ i (h : i < M.length), ∃ Ai ci, w.cell? ⟨b, off + i, none⟩ = some (.slice Ai M[i].length ci) ∧ M[i].length ≤ ci ∧ M[i].length ≤ 281474976710656 ∧ Rd w B Ai (u32s M[i])
section
variable {w w' : World} {B B' : Nat} {A : Option Addr} {M : List (List Nat)}
theorem RdM.nil_ : RdM w B A [] := fun h => absurd rfl h
theorem RdM.mono (h : RdM w B A M) (hB : B ≤ B') : RdM w B' A M := fun hn => by
  obtain ⟨b, off, e, hb, hc⟩ := h hn
  exact ⟨b, off, e, by omega, fun i hi => by obtain ⟨Ai, ci, a1, a2, a3, a4⟩ := hc i hi; exact ⟨Ai, ci, a1, a2, a3, a4.mono hB⟩⟩
theorem RdM.keep (h : RdM w B A M) (hk : ∀ p : Addr, p.block < B → w'.cell? p = w.cell? p) : RdM w' B A M := fun hn => by
  obtain ⟨b, off, e, hb, hc⟩ := h hn
  exact ⟨b, off, e, hb, fun i hi => by obtain ⟨Ai, ci, a1, a2, a3, a4⟩ := hc i hi; exact ⟨Ai, ci, (hk _ hb).trans a1, a2, a3, a4.keep hk⟩⟩
theorem RdM.below (h : RdM w B A M) (hb : Below B w w') : RdM w' B A M := h.keep fun _ hp => hb.cell hp
theorem RdM.dr (h : RdM w B A M) (k : Dr w w') : RdM w' B A M := h.below (k.below B)
theorem RdM.at_ (h : RdM w B A M) {i : Nat} (hi : i < M.length) : ∃ b off Ai ci, A = some ⟨b, off, none⟩ ∧ b < B ∧ w.cell? ⟨b, off + i, none⟩ = some (.slice Ai M[i].length ci) ∧ M[i].length ≤ ci ∧ M[i].length ≤ 281474976710656 ∧ Rd w B Ai (u32s M[i]) := by
  obtain ⟨b, off, e, hb, hc⟩ := h (by rintro rfl; simp at hi)
  obtain ⟨Ai, ci, a1, a2, a3, a4⟩ := hc i hi
  exact ⟨b, off, Ai, ci, e, hb, a1, a2, a3, a4⟩
end

/-- The headers of rows. -/
def hdrs (hs : List (Option Addr × Nat)) (M : List (List Nat)) : List Value := List.zipWith (fun h r => Value.slice h.1 r.length h.2) hs M
theorem hdrs_length {hs : List (Option Addr × Nat)} {M : List (List Nat)} (h : hs.length = M.length) : (hdrs hs M).length = M.length := by simp [hdrs, h]
theorem hdrs_at {hs : List (Option Addr × Nat)} {M : List (List Nat)} {i : Nat} (h1 : i < hs.length) (h2 : i < M.length) : (hdrs hs M)[i]? = some (.slice hs[i].1 M[i].length hs[i].2) := by
  simp [hdrs, List.getElem?_zipWith, List.getElem?_eq_getElem h1, List.getElem?_eq_getElem h2]
theorem hdrs_set (hs : List (Option Addr × Nat)) (M : List (List Nat)) (i : Nat) (h : Option Addr × Nat) (r : List Nat) :
    (hdrs hs M).set i (.slice h.1 r.length h.2) = hdrs (hs.set i h) (M.set i r) := by
  apply List.ext_getElem?
  intro k
  simp only [hdrs, List.getElem?_set, List.getElem?_zipWith, List.length_zipWith]
  by_cases hk : i = k
  · subst hk
    simp only [if_true]
    by_cases h1 : i < hs.length
    · by_cases h2 : i < M.length
      · simp [h1, h2, Nat.lt_min]
      · simp [h1, h2]; omega
    · simp [h1]; omega
  · simp [hk]
theorem hdrs_snoc {hs : List (Option Addr × Nat)} {M : List (List Nat)} (e : hs.length = M.length) (h : Option Addr × Nat) (r : List Nat) :
    hdrs (hs ++ [h]) (M ++ [r]) = hdrs hs M ++ [.slice h.1 r.length h.2] := by
  unfold hdrs
  rw [List.zipWith_append e]
  rfl

/-- All rows lie below block U. -/
def UB (U : Nat) (hs : List (Option Addr × Nat)) : Prop := ∀ h ∈ hs, (∀ a, h.1 = some a → a.block < U) ∧ h.2 ≤ maxLen
theorem UB.mono {U U' : Nat} {hs : List (Option Addr × Nat)} (h : UB U hs) (hU : U ≤ U') : UB U' hs := fun x hx => ⟨fun a ha => Nat.lt_of_lt_of_le ((h x hx).1 a ha) hU, (h x hx).2⟩
theorem UB.none_ (r U : Nat) : UB U (List.replicate r (none, 0)) := fun x hx => by
  rw [(List.mem_replicate.1 hx).2]; exact ⟨(fun a ha => by cases ha), Nat.zero_le _⟩
theorem UB.set_ {U : Nat} {hs : List (Option Addr × Nat)} (h : UB U hs) (i : Nat) {b : Nat} (o : Nat) (hb : b < U) {c : Nat} (hc : c ≤ maxLen) : UB U (hs.set i (some ⟨b, o, none⟩, c)) := fun x hx => by
  rcases List.mem_or_eq_of_mem_set hx with hx | rfl
  · exact h x hx
  · refine ⟨fun a ha => ?_, hc⟩
    obtain rfl : (⟨b, o, none⟩ : Addr) = a := by simpa using ha
    exact hb
theorem UB.at_ {U : Nat} {hs : List (Option Addr × Nat)} (h : UB U hs) {i : Nat} (hi : i < hs.length) {b o : Nat} (e : hs[i].1 = some ⟨b, o, none⟩) : b < U := (h _ (List.getElem_mem hi)).1 _ e
theorem UB.cap {U : Nat} {hs : List (Option Addr × Nat)} (h : UB U hs) {i : Nat} (hi : i < hs.length) : hs[i].2 ≤ maxLen := (h _ (List.getElem_mem hi)).2

/-- A matrix in memory of one's own, from block B on: block g holds the headers, each row that is not empty lies alone in a block. -/
structure Own (w : World) (B g : Nat) (hs : List (Option Addr × Nat)) (M : List (List Nat)) : Prop where
  len : hs.length = M.length
  top : ∃ rest, Blk w g 29 (hdrs hs M ++ rest)
  lo : B ≤ g
  row : ∀ i (h : i < M.length), Res w B 24 (hs[i]'(len ▸ h)).1 (hs[i]'(len ▸ h)).2 (u32s M[i])
  ne : ∀ i (h : i < M.length), M[i] ≠ [] → (hs[i]'(len ▸ h)).1 ≠ some ⟨g, 0, none⟩
  nd : ∀ i j (hi : i < M.length) (hj : j < M.length), i ≠ j → M[i] ≠ [] → M[j] ≠ [] → (hs[i]'(len ▸ hi)).1 ≠ (hs[j]'(len ▸ hj)).1

section
variable {w w' : World} {B B' g : Nat} {hs : List (Option Addr × Nat)} {M : List (List Nat)}
theorem Own.lt (h : Own w B g hs M) : g < w.heap.size := by obtain ⟨rest, hb⟩ := h.top; exact hb.lt
theorem Own.below (h : Own w B g hs M) (hb : Below B' w w') (hB : w.heap.size ≤ B') : Own w' B g hs M :=
  ⟨h.len, by obtain ⟨rest, ht⟩ := h.top; exact ⟨rest, ht.below hb (by have := ht.lt; omega)⟩, h.lo, fun i hi => (h.row i hi).below hb hB, h.ne, h.nd⟩
theorem Own.dr (h : Own w B g hs M) (hd : Dr w w') : Own w' B g hs M := h.below (hd.below w.heap.size) (Nat.le_refl _)
theorem Own.drew (h : Own w B g hs M) : Own w.drew B g hs M := h.dr (Dr.refl w).drew
theorem Own.drewN (h : Own w B g hs M) (n : Nat) : Own (w.drewN n) B g hs M := h.dr ((Dr.refl w).step n)
theorem Own.mono (h : Own w B g hs M) (hB : B' ≤ B) : Own w B' g hs M :=
  ⟨h.len, h.top, Nat.le_trans hB h.lo, fun i hi => (h.row i hi).mono hB, h.ne, h.nd⟩
theorem Own.head (h : Own w B g hs M) {i : Nat} (hi : i < M.length) : w.cell? ⟨g, i, none⟩ = some (.slice (hs[i]'(h.len ▸ hi)).1 M[i].length (hs[i]'(h.len ▸ hi)).2) ∧ w.frozen? ⟨g, i, none⟩ = false := by
  obtain ⟨rest, ht⟩ := h.top
  refine ⟨?_, ht.frozen i⟩
  rw [ht.cell, List.getElem?_append_left (by rw [hdrs_length h.len]; exact hi), hdrs_at (h.len ▸ hi) hi]
theorem Own.rd (h : Own w B g hs M) : RdM w w.heap.size (some ⟨g, 0, none⟩) M := fun _ =>
  ⟨g, 0, rfl, h.lt, fun i hi => ⟨_, _, by rw [Nat.zero_add]; exact (h.head hi).1, by have := (h.row i hi).1; rw [u32s_length] at this; exact this, (by have := (h.row i hi).2.1; rw [u32s_length] at this; exact this), (h.row i hi).rd⟩⟩
theorem Own.at_ (h : Own w B g hs M) {i k : Nat} (hi : i < M.length) (hk : k < M[i].length) :
    ∃ gi rest, (hs[i]'(h.len ▸ hi)).1 = some ⟨gi, 0, none⟩ ∧ gi ≠ g ∧ B ≤ gi ∧ Blk w gi 24 (u32s M[i] ++ rest) ∧ M[i].length + rest.length = (hs[i]'(h.len ▸ hi)).2 := by
  obtain ⟨gi, rest, e, hB, hb, hc⟩ := (h.row i hi).2.2 (u32s_ne hk)
  refine ⟨gi, rest, e, fun e2 => ?_, hB, hb, by rw [u32s_length] at hc; exact hc⟩
  refine h.ne i hi (fun e3 => by rw [e3] at hk; simp at hk) ?_
  rw [e, e2]
/-- Row i's block alone has turned. -/
theorem Own.setRow (h : Own w B g hs M) {i gi : Nat} (hi : i < M.length) {r : List Nat} {rest : List Value} (e : (hs[i]'(h.len ▸ hi)).1 = some ⟨gi, 0, none⟩) (hc : Tn gi w w') (hb : Blk w' gi 24 (u32s r ++ rest)) (hr : r.length = M[i].length) (hg : gi ≠ g) (hB : B ≤ gi) (hcap : M[i].length + rest.length = (hs[i]'(h.len ▸ hi)).2) (hn : M[i] ≠ []) : Own w' B g hs (M.set i r) := by
  have hlen : hs.length = (M.set i r).length := by rw [List.length_set]; exact h.len
  have hnil : ∀ j (hj : j < (M.set i r).length), (M.set i r)[j] ≠ [] → M[j]'(by simpa using hj) ≠ [] := fun j hj hne => by
    rw [List.getElem_set] at hne
    split at hne
    · rename_i e; subst e; exact hn
    · exact hne
  refine ⟨hlen, ?_, h.lo, fun j hj => ?_, fun j hj hne => h.ne j (by simpa using hj) (hnil j hj hne), fun j k hj hk hjk h1 h2 => h.nd j k (by simpa using hj) (by simpa using hk) hjk (hnil j hj h1) (hnil k hk h2)⟩
  · obtain ⟨rest2, ht⟩ := h.top
    refine ⟨rest2, ?_⟩
    have e1 : hdrs hs (M.set i r) = hdrs hs M := by
      have := hdrs_set hs M i (hs[i]'(h.len ▸ hi)) r
      rw [List.set_getElem_self] at this
      rw [← this, hr]
      have h3 := hdrs_at (hs := hs) (M := M) (h.len ▸ hi) hi
      obtain ⟨h4, h5⟩ := List.getElem?_eq_some_iff.1 h3
      rw [← h5, List.set_getElem_self]
    rw [e1]
    exact ht.tn hc hg.symm
  · have hj' : j < M.length := by simpa using hj
    by_cases hij : i = j
    · subst hij
      simp only [List.getElem_set_self]
      refine ⟨by rw [u32s_length, hr]; omega, by have := (h.row i hi).2.1; rw [u32s_length] at this; rw [u32s_length, hr]; exact this, fun _ => ⟨gi, rest, e, hB, hb, by rw [u32s_length, hr]; exact hcap⟩⟩
    · rw [List.getElem_set_ne hij]
      refine (h.row j hj').keepBut hc fun hne e2 => ?_
      refine h.nd i j hi hj' hij hn (fun e3 => hne (by rw [e3]; rfl)) ?_
      rw [e, e2]
end
end
section
open Go.RowKit

theorem made_one (z : Value) (n : Nat) (hz : z.cells = #[z]) : madeCells z.cells (n * 1) = (List.replicate n z).toArray := by
  rw [hz, Nat.mul_one]
  apply Array.ext'
  simp only [madeCells, List.size_toArray, List.length_singleton, Nat.mod_one]
  simp [Array.toList_map, List.map_const']

theorem Tryd.info32 : (Tryd.prog.info? 24).map (fun i => (i.zero, i.size, i.bytes)) = some (some (.int .u32 0), 1, 4) := by kernel_rfl
theorem Tryd.infoRow : (Tryd.prog.info? 29).map (fun i => (i.zero, i.size, i.bytes)) = some (some (.slice none 0 0), 1, 24) := by kernel_rfl

theorem mkRow (n : Nat) (h : n ≤ 70368744177664) (w : World) : (Instr.makeSlice 29 (.int .i64 (n : Int)) (.int .i64 (n : Int))).run Tryd.prog w = .ok (.slice (some ⟨w.heap.size, 0, none⟩) n n) (w.alloc (.cells (List.replicate n (Value.int .u32 0)).toArray 24)) := by
  obtain ⟨i0, hi, hz0, hz1, hz2⟩ := info_parts Tryd.info32
  have hr := run_make (P := Tryd.prog) w 29 24 i0 (.int .u32 0) Tryd.underlying29 hi hz0 .i64 .i64 n n (by omega) (by omega) (by rw [hz2]; omega) (by omega)
  rw [hz1, Int.toNat_natCast, made_one _ _ rfl] at hr
  exact hr
theorem mkTop (n : Nat) (h : n ≤ 11728124029610) (w : World) : (Instr.makeSlice 23 (.int .i64 (n : Int)) (.int .i64 (n : Int))).run Tryd.prog w = .ok (.slice (some ⟨w.heap.size, 0, none⟩) n n) (w.alloc (.cells (List.replicate n (Value.slice none 0 0)).toArray 29)) := by
  obtain ⟨i0, hi, hz0, hz1, hz2⟩ := info_parts Tryd.infoRow
  have hr := run_make (P := Tryd.prog) w 23 29 i0 (.slice none 0 0) Tryd.underlying23 hi hz0 .i64 .i64 n n (by omega) (by omega) (by rw [hz2]; omega) (by omega)
  rw [hz1, Int.toNat_natCast, made_one _ _ rfl] at hr
  exact hr
end
end Go.Proofs.YtbafiahmcfkboaaDoor
