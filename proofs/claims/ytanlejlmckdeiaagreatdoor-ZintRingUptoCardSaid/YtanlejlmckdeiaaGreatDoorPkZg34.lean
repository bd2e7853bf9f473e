/- Plain numbers: the state of Euclid's steps with one coefficient; what Bezout answers. No conditions. Variables behind new blocks. No conditions. The contract of the reference's inverse: Euclid's steps with one coefficient. Conditions: at most 2^23 limbs; a divisor above 0. Bezout's answers by numbers: behind Euclid's steps, as the program and as the reference go on. No conditions. -/
import Derived.Test.YtanlejlmckdeiaaGreatDoorPkZg13
import Derived.Test.YtanlejlmckdeiaaGreatDoorPkZg17
import Derived.Test.YtanlejlmckdeiaaGreatDoorPkZg33
namespace Go.Proofs.YtanlejlmckdeiaaGreatDoor
section
/-- The state of Euclid's steps: each remainder is A times its number, but for a multiple of B. -/
structure EuB (A B r r2 x x2 : Int) : Prop where
  r0 : 0 ≤ r
  s0 : 0 ≤ r2
  c1 : B ∣ r - A * x
  c2 : B ∣ r2 - A * x2
  g : Int.gcd r r2 = Int.gcd A B
  b : x2.natAbs * r.natAbs + x.natAbs * r2.natAbs ≤ B.natAbs
  bx : x.natAbs ≤ B.natAbs
  bx2 : x2.natAbs ≤ B.natAbs
theorem EuB.start {A B : Int} (hA : 0 ≤ A) (hB : 0 < B) : EuB A B A B 1 0 :=
  ⟨hA, by omega, by simp, by simp, rfl, by simp, by omega, by simp⟩
theorem EuB.start2 {A B : Int} (hA : 0 ≤ A) (hB : 0 < B) : EuB A B B A 0 1 :=
  ⟨by omega, hA, by simp, by simp, Int.gcd_comm _ _, by simp, by simp, by omega⟩
theorem EuB.next {A B r r2 x x2 : Int} (h : EuB A B r r2 x x2) (h2 : r2 ≠ 0) : EuB A B r2 (r % r2) x2 (x - r / r2 * x2) := by
  have hs := h.s0
  have hr := h.r0
  have hp : 0 < r2 := by omega
  have e := Int.mul_ediv_add_emod r r2
  have q0 : 0 ≤ r / r2 := Int.ediv_nonneg hr hs
  have m0 := Int.emod_nonneg r h2
  have m1 := Int.emod_lt_of_pos r hp
  have hb := h.b
  have hkey : (x - r / r2 * x2).natAbs * r2.natAbs + x2.natAbs * (r % r2).natAbs ≤ B.natAbs := by
    have t1 : (x - r / r2 * x2).natAbs ≤ x.natAbs + (r / r2).natAbs * x2.natAbs := by
      rw [← Int.natAbs_mul]; omega
    have t2 : (r / r2).natAbs * r2.natAbs + (r % r2).natAbs = r.natAbs := by
      rw [← Int.natAbs_mul]
      have : 0 ≤ r / r2 * r2 := Int.mul_nonneg q0 hs
      rw [Int.mul_comm] at e
      omega
    have t3 := Nat.mul_le_mul_right r2.natAbs t1
    rw [Nat.add_mul] at t3
    have t4 : x2.natAbs * r.natAbs = (r / r2).natAbs * x2.natAbs * r2.natAbs + x2.natAbs * (r % r2).natAbs := by
      rw [← t2]; grind
    omega
  refine ⟨hs, m0, h.c2, ?_, ?_, by omega, h.bx2, ?_⟩
  · have e2 : r % r2 - A * (x - r / r2 * x2) = (r - A * x) - r / r2 * (r2 - A * x2) := by grind
    rw [e2]
    exact Int.dvd_sub h.c1 (Int.dvd_trans h.c2 (Int.dvd_mul_left _ _))
  · rw [← h.g, Int.gcd_comm r r2]
    have e3 : r % r2 = r - r2 * (r / r2) := by omega
    rw [e3]
    exact Int.gcd_sub_mul_left_right ..
  · have : (x - r / r2 * x2).natAbs * 1 ≤ (x - r / r2 * x2).natAbs * r2.natAbs := Nat.mul_le_mul_left _ (by omega)
    omega
theorem EuB.done {A B r x x2 : Int} (h : EuB A B r 0 x x2) : r = (Int.gcd A B : Nat) ∧ B ∣ (Int.gcd A B : Nat) - A * x := by
  have h1 := h.g
  rw [Int.gcd_zero_right] at h1
  have h2 := h.r0
  have e : r = (Int.gcd A B : Nat) := by omega
  exact ⟨e, e ▸ h.c1⟩

/-- What Bezout answers. -/
def BezIs (a b g x y : Int) : Prop :=
  g = (Int.gcd a b : Nat) ∧ (if b = 0 then x = a.sign ∧ y = 0 else 0 ≤ x ∧ x * g < b.natAbs ∧ a * x + b * y = g)
theorem BezIs.unique {a b g x y g' x' y' : Int} (h : BezIs a b g x y) (k : BezIs a b g' x' y') : g = g' ∧ x = x' ∧ y = y' := by
  obtain ⟨h1, h2⟩ := h
  obtain ⟨k1, k2⟩ := k
  have eg : g = g' := h1.trans k1.symm
  subst eg
  by_cases hb : b = 0
  · rw [if_pos hb] at h2 k2
    exact ⟨rfl, h2.1.trans k2.1.symm, h2.2.trans k2.2.symm⟩
  · rw [if_neg hb] at h2 k2
    obtain ⟨h3, h4, h5⟩ := h2
    obtain ⟨k3, k4, k5⟩ := k2
    have hg0 : 0 < g := by
      have := Int.gcd_pos_of_ne_zero_right a hb
      omega
    obtain ⟨p, hp⟩ : g ∣ a := h1 ▸ Int.gcd_dvd_left a b
    obtain ⟨q, hq⟩ : g ∣ b := h1 ▸ Int.gcd_dvd_right a b
    have hcop : Int.gcd p q = 1 := by
      have := Int.gcd_mul_left g p q
      rw [← hp, ← hq] at this
      have e3 : g.natAbs * Int.gcd p q = g.natAbs * 1 := by omega
      exact Nat.eq_of_mul_eq_mul_left (by omega) e3
    have e1 : p * (x - x') = q * (y' - y) := by
      have : g * (p * (x - x')) = g * (q * (y' - y)) := by rw [hp, hq] at h5 k5; grind
      exact Int.eq_of_mul_eq_mul_left (by omega) this
    have d1 : q ∣ p * (x - x') := ⟨_, e1⟩
    have d2 : q ∣ x - x' := by
      have d3 : q.natAbs ∣ p.natAbs * (x - x').natAbs := by rw [← Int.natAbs_mul]; exact Int.natAbs_dvd_natAbs.2 d1
      have hc2 : Nat.Coprime q.natAbs p.natAbs := by
        show Nat.gcd _ _ = 1
        rw [Nat.gcd_comm]; exact hcop
      exact Int.natAbs_dvd_natAbs.1 (hc2.dvd_of_dvd_mul_left d3)
    have hqg : q.natAbs * g.natAbs = b.natAbs := by rw [hq, Int.natAbs_mul, Nat.mul_comm]
    have hx : x.natAbs < q.natAbs := by
      refine Nat.lt_of_mul_lt_mul_right (a := g.natAbs) ?_
      rw [hqg, ← Int.natAbs_mul]
      have : 0 ≤ x * g := Int.mul_nonneg h3 (by omega)
      omega
    have hx' : x'.natAbs < q.natAbs := by
      refine Nat.lt_of_mul_lt_mul_right (a := g.natAbs) ?_
      rw [hqg, ← Int.natAbs_mul]
      have : 0 ≤ x' * g := Int.mul_nonneg k3 (by omega)
      omega
    have e2 : x = x' := by
      have h9 : x - x' = 0 := Int.eq_zero_of_dvd_of_natAbs_lt_natAbs d2 (by omega)
      omega
    subst e2
    have h8 : b * y = b * y' := by omega
    exact ⟨rfl, rfl, Int.eq_of_mul_eq_mul_left hb h8⟩
/-- From any number that serves to the least one. -/
theorem BezIs.of_mod {a b x : Int} (hb : b ≠ 0) (h : b ∣ (Int.gcd a b : Nat) - a * x) :
    BezIs a b (Int.gcd a b : Nat) (x % (b / (Int.gcd a b : Nat))) (((Int.gcd a b : Nat) - a * (x % (b / (Int.gcd a b : Nat)))) / b) ∧ b ∣ (Int.gcd a b : Nat) - a * (x % (b / (Int.gcd a b : Nat))) := by
  obtain ⟨g, hg⟩ : ∃ g : Int, g = (Int.gcd a b : Nat) := ⟨_, rfl⟩
  rw [← hg] at h ⊢
  have hg0 : 0 < g := by
    have := Int.gcd_pos_of_ne_zero_right a hb
    omega
  obtain ⟨p, hp⟩ : g ∣ a := hg ▸ Int.gcd_dvd_left a b
  obtain ⟨q, hq⟩ : g ∣ b := hg ▸ Int.gcd_dvd_right a b
  have hbq : b / g = q := by rw [hq]; exact Int.mul_ediv_cancel_left _ (by omega)
  rw [hbq]
  have hq0 : q ≠ 0 := by rintro rfl; simp at hq; exact hb hq
  have m0 := Int.emod_nonneg x hq0
  have m1 : x % q < q.natAbs := by
    rcases Int.lt_or_gt_of_ne hq0 with h | h
    · have := Int.emod_lt_of_pos x (show 0 < -q by omega)
      rw [Int.emod_neg] at this
      omega
    · have := Int.emod_lt_of_pos x h
      omega
  have e := Int.mul_ediv_add_emod x q
  have d : b ∣ g - a * (x % q) := by
    have e2 : g - a * (x % q) = (g - a * x) + b * (p * (x / q)) := by grind
    rw [e2]
    exact Int.dvd_add h (Int.dvd_mul_right _ _)
  refine ⟨⟨hg, ?_⟩, d⟩
  rw [if_neg hb]
  refine ⟨m0, ?_, ?_⟩
  · have h1 : (x % q) * g < (q.natAbs : Int) * g := Int.mul_lt_mul_of_pos_right m1 hg0
    have h2 : (q.natAbs : Int) * g = b.natAbs := by
      rw [hq, Int.natAbs_mul, Int.natCast_mul]
      have : (g.natAbs : Int) = g := by omega
      rw [this, Int.mul_comm]
    omega
  · have := Int.mul_ediv_cancel' d
    omega
/-- The way by a over g modulo b over g. -/
theorem bez_ref {a b x : Int} (hb : b ≠ 0) (h : ((b / (Int.gcd a b : Nat)).natAbs : Int) ∣ (Int.gcd ((a / (Int.gcd a b : Nat)) % ((b / (Int.gcd a b : Nat)).natAbs : Int)) ((b / (Int.gcd a b : Nat)).natAbs : Int) : Nat) - ((a / (Int.gcd a b : Nat)) % ((b / (Int.gcd a b : Nat)).natAbs : Int)) * x) :
    b ∣ (Int.gcd a b : Nat) - a * x := by
  obtain ⟨g, hg⟩ : ∃ g : Int, g = (Int.gcd a b : Nat) := ⟨_, rfl⟩
  rw [← hg] at h ⊢
  have hg0 : 0 < g := by
    have := Int.gcd_pos_of_ne_zero_right a hb
    omega
  obtain ⟨p, hp⟩ : g ∣ a := hg ▸ Int.gcd_dvd_left a b
  obtain ⟨q, hq⟩ : g ∣ b := hg ▸ Int.gcd_dvd_right a b
  have hbq : b / g = q := by rw [hq]; exact Int.mul_ediv_cancel_left _ (by omega)
  have hap : a / g = p := by rw [hp]; exact Int.mul_ediv_cancel_left _ (by omega)
  rw [hbq, hap] at h
  have hq0 : q ≠ 0 := by rintro rfl; simp at hq; exact hb hq
  have hcop : Int.gcd p q = 1 := by
    have := Int.gcd_mul_left g p q
    rw [← hp, ← hq] at this
    have e3 : g.natAbs * Int.gcd p q = g.natAbs * 1 := by omega
    exact Nat.eq_of_mul_eq_mul_left (by omega) e3
  obtain ⟨k, hk⟩ : ∃ k : Int, k = (q.natAbs : Int) := ⟨_, rfl⟩
  rw [← hk] at h
  have e := Int.mul_ediv_add_emod p k
  have hgk : Int.gcd p k = 1 := by rw [hk]; unfold Int.gcd at hcop ⊢; rwa [Int.natAbs_natCast]
  have hg1 : Int.gcd (p % k) k = 1 := by
    have e3 : p % k = p - k * (p / k) := by omega
    rw [e3, Int.mul_comm, Int.gcd_sub_mul_right_left]
    exact hgk
  rw [hg1] at h
  have h2 : q ∣ 1 - p * x := by
    have e4 : 1 - p * x = ((1 : Nat) - p % k * x) - k * (p / k * x) := by rw [← Int.mul_assoc]; grind
    rw [e4]
    have hqk : q ∣ k := by rw [hk]; exact Int.dvd_natAbs_self
    exact Int.dvd_sub (Int.dvd_trans hqk h) (Int.dvd_trans hqk (Int.dvd_mul_right _ _))
  obtain ⟨m, hm⟩ := h2
  refine ⟨m, ?_⟩
  rw [hq, Int.mul_assoc, ← hm]
  conv => lhs; rw [hp]
  grind
end
section
open Go.RowKit

theorem two_al {w : World} {g : Nat} {t : TypeId} {x y : Value} (h : Blk w g t [x, y]) : (∀ o : Obj, (w.alloc o).cell? ⟨g, 0, none⟩ = some x) ∧ (∀ o : Obj, (w.alloc o).cell? ⟨g, 1, none⟩ = some y) ∧ (∀ o : Obj, (w.alloc o).frozen? ⟨g, 0, none⟩ = false) ∧ (∀ o : Obj, (w.alloc o).frozen? ⟨g, 1, none⟩ = false) :=
  ⟨fun o => (h.heapAlloc o).c0, fun o => (h.heapAlloc o).c1, fun o => (h.heapAlloc o).frozen 0, fun o => (h.heapAlloc o).frozen 1⟩
theorem two_al2 {w : World} {g : Nat} {t : TypeId} {x y : Value} (h : Blk w g t [x, y]) : (∀ o o2 : Obj, ((w.alloc o).alloc o2).cell? ⟨g, 0, none⟩ = some x) ∧ (∀ o o2 : Obj, ((w.alloc o).alloc o2).cell? ⟨g, 1, none⟩ = some y) ∧ (∀ o o2 : Obj, ((w.alloc o).alloc o2).frozen? ⟨g, 0, none⟩ = false) ∧ (∀ o o2 : Obj, ((w.alloc o).alloc o2).frozen? ⟨g, 1, none⟩ = false) :=
  ⟨fun o o2 => ((h.heapAlloc o).heapAlloc o2).c0, fun o o2 => ((h.heapAlloc o).heapAlloc o2).c1, fun o o2 => ((h.heapAlloc o).heapAlloc o2).frozen 0, fun o o2 => ((h.heapAlloc o).heapAlloc o2).frozen 1⟩
theorem res_al9 {w : World} {B : Nat} {t : TypeId} {A : Option Addr} {c : Nat} {vs : List Value} (h : Res w B t A c vs) (o : Obj) : Res (w.alloc o) B t A c vs := h.below ((Below.refl _ _).alloc (Nat.le_refl _) o) (Nat.le_refl _)
/-- What a call leaves, off an earlier world. -/
theorem bel_pre {w0 w w' : World} (hb : Below w.heap.size w w') (h : Below w0.heap.size w0 w) : Below w0.heap.size w0 w' := bst h hb (Nat.le_refl _)
end
section
open Go.RowKit

/-- The four variables of Euclid's steps. -/
def LpS (B : Nat) (W : World) (s t x y : Nat) (r r2 a b : Int) (K : Nat) : Prop := Vr B W s r K ∧ Vr B W t r2 K ∧ Vr B W x a K ∧ Vr B W y b K
theorem Vr.num {B g K : Nat} {W : World} {z : Int} (v : Vr B W g z K) : z.natAbs < 4294967296 ^ K := by
  obtain ⟨A, c, zs, _, n, r, l⟩ := v
  exact (zn_of n r l).lt
theorem Vr.mono {B B2 g K : Nat} {W : World} {z : Int} (v : Vr B W g z K) (h : B2 ≤ B) : Vr B2 W g z K := by
  obtain ⟨A, c, zs, b, n, r, l⟩ := v
  exact ⟨A, c, zs, b, n, r.mono h, l⟩
/-- A function that answers an integer in a cell of its own, at any demand. -/
theorem zretR {RR : Ending → World → Prop} {fn : Func} {a : Act} {w W : World} {p : Tmp} {r : Nat} {b : Bool} {x y : Value} {z : Int} {zs : List Nat} {A : Option Addr} {c : Nat} (hR : ∀ e w', ZOut w w' z e → RR e w') (hbel : Below w.heap.size w W) (hB : Blk W r 28 [x, y]) (hr : w.heap.size ≤ r)
    (hz : Num 4294967296 zs z.natAbs) (hres : Res W w.heap.size 61 A c (u32s zs)) (hb : b = isNeg z) (hres0 : fn.results = #[.cell p 28]) (hp : a.tmps.getD p undef = .pointer (some ⟨r, 0, none⟩)) (hd : a.defers = []) :
    bodyPost Tryz.prog fn RR .ret a ((W.setCell ⟨r, 0, none⟩ (.bool b)).setCell ⟨r, 1, none⟩ (.slice A zs.length c)) := by
  subst hb
  exact bodyPost_ret (results_cell_row hres0 _ _ r 28 _ (0, 0) _ hp (blk_pair hB _ _) Tryz.underlying28 rfl (by kernel_rfl)) hd
    (hR _ _ ⟨zs, A, c, rfl, hz, res_var2 hres hB _ _, bsc (bsc hbel hr _) hr _⟩)
theorem rest_lt {r r2 : Int} {K : Nat} (_ : 0 ≤ r2) (h : r2 ≠ 0) (hl : r2.natAbs < 4294967296 ^ K) : (r % r2).natAbs < 4294967296 ^ K ∧ (r % r2).natAbs < r2.natAbs := by
  have e1 := emod_lt_abs' r h
  have e2 := Int.emod_nonneg r h
  omega
theorem quo_lt {r r2 : Int} {K : Nat} (hl : r.natAbs < 4294967296 ^ K) : (r / r2).natAbs < 4294967296 ^ K := Nat.lt_of_le_of_lt (Int.natAbs_ediv_le_natAbs r r2) hl
theorem inv_fin {R Q x : Int} (hQ : 0 < Q) (h : Q ∣ (Int.gcd R Q : Nat) - R * x) : 0 ≤ x % Q ∧ x % Q < Q ∧ Q ∣ (Int.gcd R Q : Nat) - R * (x % Q) := by
  refine ⟨Int.emod_nonneg _ (by omega), Int.emod_lt_of_pos _ hQ, ?_⟩
  have e : (Int.gcd R Q : Nat) - R * (x % Q) = ((Int.gcd R Q : Nat) - R * x) + Q * (R * (x / Q)) := by
    have e9 := Int.mul_ediv_add_emod x Q
    grind
  rw [e]
  exact Int.dvd_add h (Int.dvd_mul_right _ _)
section
variable {w : World} {A A2 : Option Addr} {c c2 N : Nat} {rs qs : List Nat} {R Q : Int}
end
end
section
theorem gcd_abs9 (z y : Int) : Int.gcd (z.natAbs : Int) (y.natAbs : Int) = Int.gcd z y := by simp [Int.gcd]
theorem bez_exact {z y r : Int} (hy : y ≠ 0) (hr : r = (Int.gcd z y : Nat)) : 0 < r ∧ Int.tmod y r = 0 ∧ Int.tdiv y r = y / r ∧ y / r ≠ 0 ∧ Int.tmod z r = 0 ∧ Int.tdiv z r = z / r ∧ r * (y / r) = y := by
  have h1 : r ∣ y := by rw [hr]; exact Int.gcd_dvd_right ..
  have h2 : r ∣ z := by rw [hr]; exact Int.gcd_dvd_left ..
  have h3 : 0 < r := by have := Int.gcd_pos_of_ne_zero_right z hy; omega
  have h4 := Int.mul_ediv_cancel' h1
  refine ⟨h3, Int.tmod_eq_zero_of_dvd h1, Int.tdiv_eq_ediv_of_dvd h1, fun e => ?_, Int.tmod_eq_zero_of_dvd h2, Int.tdiv_eq_ediv_of_dvd h2, h4⟩
  rw [e, Int.mul_zero] at h4
  exact hy h4.symm
theorem bez_fin {z y r x : Int} (hy : y ≠ 0) (hr : r = (Int.gcd z y : Nat)) (hd : y ∣ (Int.gcd z y : Nat) - z * x) :
    Int.tmod (r - z * (x % (y / r))) y = 0 ∧ BezIs z y r (x % (y / r)) (Int.tdiv (r - z * (x % (y / r))) y) := by
  obtain ⟨h1, h2⟩ := BezIs.of_mod hy hd
  rw [← hr] at h1 h2
  refine ⟨Int.tmod_eq_zero_of_dvd h2, ?_⟩
  rw [Int.tdiv_eq_ediv_of_dvd h2]
  exact h1
theorem sgn_mul {g : Bool} {z : Int} (x : Int) (h : ivalN g z.natAbs = z) : z * (if g = true then -x else x) = (z.natAbs : Int) * x := by
  cases g
  · rw [ival_false] at h
    rw [if_neg (by decide)]; rw [h]
  · rw [ival_true] at h
    rw [if_pos rfl]
    obtain ⟨n, hn⟩ : ∃ n, n = z.natAbs := ⟨_, rfl⟩
    rw [← hn] at h ⊢
    rw [← h]; grind
theorem bez_loop {g : Bool} {z y r x x2 : Int} (hg : ivalN g z.natAbs = z) (h : EuB z.natAbs y.natAbs r 0 x x2) : r = (Int.gcd z y : Nat) ∧ y ∣ (Int.gcd z y : Nat) - z * (if g = true then -x else x) := by
  obtain ⟨h1, h2⟩ := h.done
  rw [gcd_abs9] at h1 h2
  rw [sgn_mul x hg]
  exact ⟨h1, Int.natAbs_dvd.1 h2⟩
theorem bez_ref_fin {z y G Q R X : Int} (hy : y ≠ 0) (hG : G = (Int.gcd z y : Nat)) (hQ : Q = ((y / G).natAbs : Int)) (hR : R = (z / G) % Q) (h0 : 0 ≤ X) (h1 : X < Q) (h2 : Q ∣ (Int.gcd R Q : Nat) - R * X) :
    Int.tmod (G - z * X) y = 0 ∧ BezIs z y G X (Int.tdiv (G - z * X) y) := by
  obtain ⟨g0, _, _, _, _, _, g1⟩ := bez_exact hy hG
  have hd : y ∣ (Int.gcd z y : Nat) - z * X := bez_ref hy (by rw [← hG, ← hQ, ← hR]; exact h2)
  rw [← hG] at hd
  refine ⟨Int.tmod_eq_zero_of_dvd hd, hG, ?_⟩
  rw [if_neg hy, Int.tdiv_eq_ediv_of_dvd hd]
  refine ⟨h0, ?_, ?_⟩
  · have e1 : G.natAbs * (y / G).natAbs = y.natAbs := by rw [← Int.natAbs_mul, g1]
    have e2 : ((y.natAbs : Nat) : Int) = Q * G := by
      rw [← e1, hQ, Int.natCast_mul, Int.mul_comm, show ((G.natAbs : Nat) : Int) = G from by omega]
    rw [e2]
    exact Int.mul_lt_mul_of_pos_right h1 g0
  · have := Int.mul_ediv_cancel' hd
    omega
end
end Go.Proofs.YtanlejlmckdeiaaGreatDoor
