/- Rests by a polynomial modulo a prime. Conditions: p a prime; the divisor normal, not 0. The contracts of fieldOf, power, bezout. Conditions: p below 2^32, a prime where it is said; bases reads 2, 7, 61. What modpoly's calls answer of a number that is no prime. Conditions: it is below 2^32; bases reads 2, 7, 61. The contract of bezout. Conditions: p a prime below 2^32; both normal; bases reads 2, 7, 61. -/
import Derived.Test.YtbafiahmcfkboaaDoorPkHm38
import Derived.Test.YtbafiahmcfkboaaDoorShelf
import Derived.Lib.ItoaNum
namespace Go.Proofs.YtbafiahmcfkboaaDoor
section
section
variable {p : Nat}
/-- r is the rest of z by m. -/
structure Rs (p : Nat) (m : List Nat) (z : Z) (r : List Nat) : Prop where
  nf : Nf p r
  lt : r.length < m.length
  eq : ∃ u : Z, Cg p z (u * zo m + zo r)
theorem Rs.of_dv {m : List Nat} {z : Z} {q r : List Nat} (h : Dv p z (zo m) m.length q r) : Rs p m z r := ⟨h.nr, h.lt, zo q, h.eq⟩
theorem Rs.unique (hp : Pr p) {m : List Nat} {z z' : Z} {r r' : List Nat} (hm : Nf p m) (h : Rs p m z r) (h' : Rs p m z' r') (he : ∃ u : Z, Cg p z (u * zo m + z')) : r = r' := by
  obtain ⟨u, hu⟩ := h.eq
  obtain ⟨u', hu'⟩ := h'.eq
  obtain ⟨v, hv⟩ := he
  obtain ⟨q, nq, hq⟩ := nf_of hp.pos u
  obtain ⟨q', nq', hq'⟩ := nf_of hp.pos (v + u')
  have d1 : Dv p z (zo m) m.length q r := ⟨nq, h.nf, h.lt, hu.lin2 hq (.c 1) (.c (-1) * zo m) fun x => by simp only [Z.v_add, Z.v_mul, Z.v_c]; grind⟩
  have d2 : Dv p z (zo m) m.length q' r' := ⟨nq', h'.nf, h'.lt, (hv.lin2 hu' (.c 1) (.c 1) fun x => by simp only [Z.v_add, Z.v_mul, Z.v_c]; grind : Cg p z ((v + u') * zo m + zo r')).lin2 hq' (.c 1) (.c (-1) * zo m) fun x => by simp only [Z.v_add, Z.v_mul, Z.v_c]; grind⟩
  exact (Dv.unique hp hm d1 d2 (Cg.refl z)).2
theorem Rs.cg {m : List Nat} {z z' : Z} {r : List Nat} (h : Rs p m z r) (he : ∃ u : Z, Cg p z' (u * zo m + z)) : Rs p m z' r := by
  obtain ⟨u, hu⟩ := h.eq
  obtain ⟨v, hv⟩ := he
  exact ⟨h.nf, h.lt, v + u, hv.lin2 hu (.c 1) (.c 1) fun x => by simp only [Z.v_add, Z.v_mul, Z.v_c]; grind⟩
theorem Rs.mul {m : List Nat} {z1 z2 : Z} {r1 r2 r : List Nat} (h1 : Rs p m z1 r1) (h2 : Rs p m z2 r2) (h : Rs p m (zo r1 * zo r2) r) : Rs p m (z1 * z2) r := by
  obtain ⟨u1, e1⟩ := h1.eq
  obtain ⟨u2, e2⟩ := h2.eq
  refine h.cg ⟨u1 * u2 * zo m + u1 * zo r2 + u2 * zo r1, e1.lin2 e2 z2 (u1 * zo m + zo r1) fun x => by simp only [Z.v_add, Z.v_mul]; grind⟩
theorem Rs.add {m : List Nat} {z1 z2 : Z} {r1 r2 r : List Nat} (h1 : Rs p m z1 r1) (h2 : Rs p m z2 r2) (h : Rs p m (zo r1 + zo r2) r) : Rs p m (z1 + z2) r := by
  obtain ⟨u1, e1⟩ := h1.eq
  obtain ⟨u2, e2⟩ := h2.eq
  refine h.cg ⟨u1 + u2, e1.lin2 e2 (.c 1) (.c 1) fun x => by simp only [Z.v_add, Z.v_mul, Z.v_c]; grind⟩
theorem Rs.none_ {m : List Nat} (nm : m ≠ []) : Rs p m (zo []) [] := ⟨Nf.nil_ p, len_pos nm, .c 0, Cg.of_eq fun x => by simp only [Z.v_add, Z.v_mul, Z.v_c, zo_nil]; grind⟩
end
end
section
open Go.RowKit

set_option maxHeartbeats 800000 in
theorem fieldOf_yes (p : Nat) (w : World) (hpr : Pr p) (hp : p < 4294967296) (hw : Bases w) :
    Calls Tryd.prog 38 #[.int .u32 (p : Int)] w fun e w' => e = .returned (.tuple #[.agg #[.int .u64 (p : Int), .int .u64 (spN p : Int)], .int .i64 0]) ∧ Below w.heap.size w w' := by
  have Hi := Lib.hid (fun W hW => is_yes p hpr hp W hW)
  have Hw : Hid (∀ o, Bases (w.alloc o)) := fun o => hw.later ((Below.refl w.heap.size w).alloc (Nat.le_refl _) o)
  have hp0 := hpr.pos
  have t4 : ((p : Int) == 0) = false := bz hp0
  obtain ⟨r, hr⟩ : ∃ r, r = 18446744073709551615 % p := ⟨_, rfl⟩
  have hrl : r < p := by rw [hr]; exact Nat.mod_lt _ hp0
  obtain ⟨s, hs⟩ : ∃ s, s = spN p := ⟨_, rfl⟩
  have e : s = (r + 1) % p := by rw [hs, hr]; unfold spN; rw [Nat.mod_add_mod]
  have hsl : s < p := by rw [hs]; exact Nat.mod_lt _ hp0
  rw [← hs]
  have t1 : (18446744073709551615 : Int) % (p : Int) = (r : Int) := by rw [hr]; rfl
  obtain ⟨r1, hr1⟩ : ∃ r1, r1 = r + 1 := ⟨_, rfl⟩
  have t2 : (r : Int) + 1 = (r1 : Int) := by omega
  have t3 : (r1 : Int) % (p : Int) = (s : Int) := by rw [e, ← hr1]; exact (Int.natCast_emod _ _).symm
  have hr1b : r1 ≤ 4294967296 := by omega
  clear hpr hw hr hs e hr1
  go_enter Tryd.func38, Tryd.ntmps38
  go_wp2_with (go_at_call 30; (with_reducible refine (Hi.out _ (Hw.out _)).mono ?_); rintro e w1 ⟨rfl, rfl⟩)
  refine bodyPost_ret (v := .tuple #[.agg #[.int .u64 (p : Int), .int .u64 (s : Int)], .int .i64 0]) (by simp [results, Tryd.results38, go_sem, *]) rfl ⟨rfl, ?_⟩
  exact (Below.refl _ _).alloc (Nat.le_refl _) _

theorem one_lst (p : Nat) (hp : 1 < p) : Nf p [1] := ⟨fun x hx => by rw [List.mem_singleton.1 hx]; exact hp, rfl⟩
theorem PR1.rest {p : Nat} {w w' : World} {z : Z} {m r q : List Nat} {e : Ending} (h : PR1 w r e w') (hd : Dv p z (zo m) m.length q r) : ∃ A c, e = .returned (.slice A r.length c) ∧ Res w' w.heap.size 24 A c (u32s r) ∧ Rs p m z r ∧ Below w.heap.size w w' := by
  obtain ⟨v, rfl, A, c, rfl, hr, hb⟩ := h
  exact ⟨A, c, rfl, hr, Rs.of_dv hd, hb⟩
end
section
open Go.RowKit
end
section
open Go.RowKit

theorem Rd.drewS {W : World} {A : Option Addr} {vs : List Value} (h : Rd W W.heap.size A vs) : Rd W.drew W.drew.heap.size A vs := h.dr (Dr.refl W).drew
/-- An answer without an error. -/
def OkT (Q : Ending → World → Prop) (e : Ending) (w' : World) : Prop := ∃ v, e = .returned (.tuple #[v, .int .i64 0]) ∧ Q (.returned v) w'
theorem mnP_len (p : Nat) (a : List Nat) : (mnP p a).length ≤ a.length := by
  unfold mnP
  have := trimL_length_le (a.map (· % p))
  simpa using this
/-- What bezout tells: g, and s with g - s x a multiple of y. -/
structure Bz (p : Nat) (X Y : Z) (K : Nat) (g s : List Nat) : Prop where
  gc : Gc p X Y g
  ns : Nf p s
  lin : ∃ t : Z, Cg p (zo g) (zo s * X + t * Y)
  len : s.length ≤ K
/-- Between two of Euclid's steps. -/
structure Bs (p : Nat) (X Y : Z) (K : Nat) (a b s s2 : List Nat) : Prop where
  na : Nf p a
  nb : Nf p b
  ns : Nf p s
  n2 : Nf p s2
  gc : ∀ g, Gc p (zo a) (zo b) g → Gc p X Y g
  l1 : ∃ t : Z, Cg p (zo a) (zo s * X + t * Y)
  l2 : ∃ t : Z, Cg p (zo b) (zo s2 * X + t * Y)
  k1 : s2.length + a.length ≤ K
  k2 : s.length + b.length ≤ K
theorem Bs.step {p : Nat} (hp : Pr p) {X Y : Z} {K : Nat} {a b s s2 q r m s3 : List Nat} (h : Bs p X Y K a b s s2) (hd : Dv p (zo a) (zo b) b.length q r) (hm : Nf p m) (hmc : Cg p (zo m) (zo q * zo s2)) (h3 : Nf p s3) (hc3 : Cg p (zo s3) (zo s - zo m)) : Bs p X Y K b r s2 s3 := by
  obtain ⟨t1, e1⟩ := h.l1
  obtain ⟨t2, e2⟩ := h.l2
  have nb : b ≠ [] := by rintro rfl; have := hd.lt; simp at this
  have l1 := h.k1
  have l2 := h.k2
  have hrl := hd.lt
  have hml : m.length + b.length ≤ K ∨ m = [] := by
    by_cases n0 : m = []
    · exact Or.inr n0
    refine Or.inl ?_
    have nq : q ≠ [] := by
      rintro rfl
      exact n0 (hm.of_zero hp.pos (hmc.trans (Cg.of_eq fun x => by rw [Z.v_mul, zo_nil, Z.v_c]; omega)))
    have n2 : s2 ≠ [] := by
      rintro rfl
      exact n0 (hm.of_zero hp.pos (hmc.trans (Cg.of_eq fun x => by rw [Z.v_mul, zo_nil, Z.v_c]; omega)))
    have e3 := Nf.len_mul hp hd.nq h.n2 hm hmc nq n2
    -- the quotient's length
    have e4 : q.length + b.length ≤ a.length + 1 := by
      have h5 := Nf.top_mul hp hd.nq h.nb nq nb
      have h6 := hd.eq.co (q.length + b.length - 2)
      have h7 := len_pos nq
      have h8 := len_pos nb
      rw [Z.co_add, zo_far (a := r) (by omega), Int.add_zero] at h6
      rcases Nat.lt_or_ge (a.length + 1) (q.length + b.length) with h9 | h9
      · rw [zo_far (a := a) (by omega)] at h6
        exact absurd (by simpa using h6) h5
      · exact h9
    omega
  have hs3 : s3.length ≤ max s.length m.length := h3.len_le hp.pos hc3 fun i hi => by
    rw [Z.co_sub, zo_far (by omega), zo_far (by omega)]; exact Int.dvd_zero _
  refine ⟨h.nb, hd.nr, h.n2, h3, fun g hg => h.gc g (Gc.step hd hg), ⟨t2, e2⟩, ⟨t1 - zo q * t2, ?_⟩, ?_, ?_⟩
  · -- r = a - q b
    obtain ⟨c1, f1⟩ := e1
    obtain ⟨c2, f2⟩ := e2
    obtain ⟨c3, f3⟩ := hd.eq
    obtain ⟨c4, f4⟩ := hmc
    obtain ⟨c5, f5⟩ := hc3
    refine ⟨c1 - zo q * c2 - c3 - c5 * X + c4 * X, fun x => ?_⟩
    have f1 := f1 x
    have f2 := f2 x
    have f3 := f3 x
    have f4 := f4 x
    have f5 := f5 x
    simp only [Z.v_add, Z.v_sub, Z.v_mul] at f1 f2 f3 f4 f5 ⊢
    have g1 : (zo r).v x = (zo a).v x - (zo q).v x * (zo b).v x - p * c3.v x := by omega
    rw [g1, f1, f2, f5, f4]
    grind
  · rcases hml with h9 | h9
    · omega
    · subst h9; simp at hs3; omega
  · by_cases nq : q = []
    · have : r = a := by
        subst nq
        exact (h.na.unique hd.nr hp.pos (hd.eq.trans (Cg.of_eq fun x => by rw [Z.v_add, Z.v_mul, zo_nil]; omega))).symm
      subst this; omega
    · have h7 := len_pos nq
      have h8 := len_pos nb
      have h5 := Nf.top_mul hp hd.nq h.nb nq nb
      have h6 := hd.eq.co (q.length + b.length - 2)
      rw [Z.co_add, zo_far (a := r) (by omega), Int.add_zero] at h6
      have : b.length ≤ a.length := by
        rcases Nat.lt_or_ge a.length b.length with h9 | h9
        · rw [zo_far (a := a) (by omega)] at h6
          exact absurd (by simpa using h6) h5
        · exact h9
      omega
theorem Bs.start {p : Nat} (hp : 1 < p) {xs ys s : List Nat} (hx : Nf p xs) (hy : Nf p ys) (hs : s = [1] ∨ (s = [] ∧ xs = [])) : Bs p (zo xs) (zo ys) (xs.length + ys.length + 1) xs ys s [] := by
  refine ⟨hx, hy, ?_, Nf.nil_ p, fun g h => h, ⟨.c 0, ?_⟩, ⟨.c 1, ?_⟩, by simp; omega, ?_⟩
  · rcases hs with rfl | ⟨rfl, _⟩
    · exact one_lst p hp
    · exact Nf.nil_ p
  · rcases hs with rfl | ⟨rfl, rfl⟩
    · exact Cg.of_eq fun x => by simp only [Z.v_add, Z.v_mul, Z.v_c, zo_cons, zo_nil]; grind
    · exact Cg.of_eq fun x => by simp only [Z.v_add, Z.v_mul, Z.v_c, zo_nil]; grind
  · exact Cg.of_eq fun x => by simp only [Z.v_add, Z.v_mul, Z.v_c, zo_nil]; grind
  · rcases hs with rfl | ⟨rfl, rfl⟩ <;> simp <;> omega
theorem Bs.done {p : Nat} (hp : Pr p) {X Y : Z} {K u : Nat} {a s s2 g t : List Nat} (h : Bs p X Y K a [] s s2) (hg : MoOf p a g) (hgc : Cg p (zo g) (zo a * .c u)) (nt : Nf p t) (ht : Cg p (zo t) (zo s * .c u)) : Bz p X Y K g t := by
  obtain ⟨t1, e1⟩ := h.l1
  refine ⟨h.gc g hg.gc, nt, ⟨t1 * .c u, ?_⟩, ?_⟩
  · obtain ⟨c1, f1⟩ := e1
    obtain ⟨c2, f2⟩ := hgc
    obtain ⟨c3, f3⟩ := ht
    refine ⟨c2 + c1 * .c u - c3 * X, fun x => ?_⟩
    have f1 := f1 x
    have f2 := f2 x
    have f3 := f3 x
    simp only [Z.v_add, Z.v_sub, Z.v_mul, Z.v_c] at f1 f2 f3 ⊢
    rw [f2, f1, f3]
    grind
  · have := len_of_c hp.pos nt ht
    have := h.k2
    omega
end
end Go.Proofs.YtbafiahmcfkboaaDoor
