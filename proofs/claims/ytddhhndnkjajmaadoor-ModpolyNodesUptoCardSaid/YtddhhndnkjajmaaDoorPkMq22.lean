/- Polynomials modulo a prime: degrees, what division tells, greatest common divisors. Conditions: p a prime. Values and roots of polynomials modulo a prime. Conditions: p a prime. Matrices in memory: rows that are read, rows of one's own. No conditions. Words for the calls of modpoly; the contracts of trim and normal. Conditions: as each states. -/
import Derived.Test.YtddhhndnkjajmaaDoorPkMq21
import Derived.Test.YtddhhndnkjajmaaDoorPkMq11
import Derived.Test.YtddhhndnkjajmaaDoorRows
import Derived.Laws.CopyOwn
import Derived.OwnWalk
import Derived.OneCell
namespace Go.Proofs.YtddhhndnkjajmaaDoor
section
theorem Pr.int_mul {p : Nat} (h : Pr p) {a b : Int} (hd : (p : Int) ∣ a * b) : (p : Int) ∣ a ∨ (p : Int) ∣ b := by
  rw [Int.ofNat_dvd_left, Int.natAbs_mul] at hd
  rw [Int.ofNat_dvd_left, Int.ofNat_dvd_left]
  exact h.dvd_mul hd
theorem Nf.top {p : Nat} {a : List Nat} (h : Nf p a) (hp : 0 < p) (hn : a ≠ []) : ¬ (p : Int) ∣ ((a.getD (a.length - 1) 0 : Nat) : Int) := fun hd => by
  have h1 := trimL_top h.2 hn
  have h2 := h.getD_lt hp (a.length - 1)
  have h3 := Nat.le_of_dvd (by omega) (Int.natCast_dvd_natCast.1 hd)
  omega
theorem len_pos {a : List Nat} (h : a ≠ []) : 0 < a.length := List.length_pos_iff.2 h
theorem getD_nat {a : List Nat} {i : Nat} (h : a.length ≤ i) : a.getD i 0 = 0 := by simp [List.getD_eq_getElem?_getD, List.getElem?_eq_none h]
section
variable {p : Nat}
/-- The top coefficient of a product. -/
theorem Nf.top_mul (hp : Pr p) {a b : List Nat} (ha : Nf p a) (hb : Nf p b) (na : a ≠ []) (nb : b ≠ []) : ¬ (p : Int) ∣ (zo a * zo b).co (a.length + b.length - 2) := fun hd => by
  have h1 := len_pos na
  have h2 := len_pos nb
  have h3 := top_mulI (zi a) (zi b) (a.length - 1) (b.length - 1) (by rw [zi_length]; omega) (by rw [zi_length]; omega)
  rw [show a.length - 1 + (b.length - 1) = a.length + b.length - 2 by omega, zi_getD, zi_getD] at h3
  have h4 : (zo a * zo b).co (a.length + b.length - 2) = ((a.getD (a.length - 1) 0 : Nat) : Int) * ((b.getD (b.length - 1) 0 : Nat) : Int) := h3
  rw [h4] at hd
  rcases hp.int_mul hd with h | h
  · exact ha.top hp.pos na h
  · exact hb.top hp.pos nb h
theorem Nf.len_mul (hp : Pr p) {a b r : List Nat} (ha : Nf p a) (hb : Nf p b) (hr : Nf p r) (h : Cg p (zo r) (zo a * zo b)) (na : a ≠ []) (nb : b ≠ []) : r.length + 1 = a.length + b.length := by
  have h1 := len_pos na
  have h2 := len_pos nb
  have h3 := Nf.top_mul hp ha hb na nb
  have h4 := h.co (a.length + b.length - 2)
  rw [zo_co] at h4
  have h5 : a.length + b.length - 2 < r.length := by
    rcases Nat.lt_or_ge (a.length + b.length - 2) r.length with h5 | h5
    · exact h5
    · rw [getD_nat h5] at h4
      exact absurd (by simpa using h4) h3
  rcases Nat.lt_or_ge (a.length + b.length) (r.length + 1) with h6 | h6
  · exfalso
    have h7 := h.co (r.length - 1)
    have h8 : (zo a * zo b).co (r.length - 1) = 0 := far_mulI (zi a) (zi b) _ (by rw [zi_length, zi_length]; omega)
    rw [zo_co, h8] at h7
    exact hr.top hp.pos (by rintro rfl; simp at h5) (by simpa using h7)
  · omega
/-- A product that is 0. -/
theorem Nf.mul_none (hp : Pr p) {a b : List Nat} (ha : Nf p a) (hb : Nf p b) (h : Cg p (zo a * zo b) (.c 0)) : a = [] ∨ b = [] := by
  by_cases na : a = []
  · exact Or.inl na
  by_cases nb : b = []
  · exact Or.inr nb
  exfalso
  have h4 := h.co (a.length + b.length - 2)
  refine Nf.top_mul hp ha hb na nb ?_
  have : (Z.c 0).co (a.length + b.length - 2) = 0 := by
    unfold Z.co Z.c
    cases a.length + b.length - 2 <;> simp
  rw [this] at h4
  simpa using h4
theorem Nf.of_zero (hp : 0 < p) {a : List Nat} (ha : Nf p a) (h : Cg p (zo a) (.c 0)) : a = [] :=
  ha.unique (Nf.nil_ p) hp (h.trans (Cg.of_eq fun x => by rw [Z.v_c, zo_nil]))

/-- q and r: the quotient and the rest of a by b. -/
structure Dv (p : Nat) (a b : Z) (n : Nat) (q r : List Nat) : Prop where
  nq : Nf p q
  nr : Nf p r
  lt : r.length < n
  eq : Cg p a (zo q * b + zo r)
theorem Dv.unique (hp : Pr p) {a a' : Z} {b q r q' r' : List Nat} (hb : Nf p b) (h : Dv p a (zo b) b.length q r) (h' : Dv p a' (zo b) b.length q' r') (he : Cg p a a') : q = q' ∧ r = r' := by
  obtain ⟨d, hd, hde⟩ := nf_of hp.pos (zo q - zo q')
  have h1 : Cg p (zo q * zo b + zo r) (zo q' * zo b + zo r') := (h.eq.symm.trans he).trans h'.eq
  by_cases nd : d = []
  · subst nd
    have e1 : q = q' := h.nq.unique h'.nq hp.pos (hde.lin1 (.c (-1)) fun x => by rw [Z.v_c, Z.v_sub, zo_nil]; omega)
    subst e1
    exact ⟨rfl, h.nr.unique h'.nr hp.pos (h1.lin1 (.c 1) fun x => by rw [Z.v_c, Z.v_add, Z.v_add]; omega)⟩
  · exfalso
    have nb : b ≠ [] := by rintro rfl; have := h.lt; simp at this
    have h2 : Cg p (zo d * zo b) (zo r' - zo r) := hde.lin2 h1 (zo b) (.c 1) fun x => by
      rw [Z.v_c, Z.v_mul, Z.v_sub, Z.v_sub, Z.v_add, Z.v_add, Z.v_mul, Z.v_mul]; grind
    have h3 := h2.co (d.length + b.length - 2)
    have h4 := len_pos nd
    have h5 := h.lt
    have h6 := h'.lt
    rw [Z.co_sub, zo_co, zo_co, getD_nat (by omega), getD_nat (by omega)] at h3
    exact Nf.top_mul hp hd hb nd nb (by simpa using h3)
/-- d divides a. -/
def Dd (p : Nat) (d a : Z) : Prop := ∃ u : Z, Cg p a (u * d)
theorem Dd.refl (a : Z) : Dd p a a := ⟨.c 1, Cg.of_eq fun x => by rw [Z.v_mul, Z.v_c]; omega⟩
theorem Dd.trans {a b d : Z} (h : Dd p a b) (k : Dd p b d) : Dd p a d := by
  obtain ⟨u, hu⟩ := h
  obtain ⟨v, hv⟩ := k
  exact ⟨v * u, hv.lin2 hu (.c 1) v fun x => by simp only [Z.v_c, Z.v_mul]; grind⟩
theorem Dd.lin {a b d e : Z} (h : Dd p d a) (k : Dd p d b) (m n : Z) (he : Cg p e (m * a + n * b)) : Dd p d e := by
  obtain ⟨u, hu⟩ := h
  obtain ⟨v, hv⟩ := k
  exact ⟨m * u + n * v, he.lin3 hu hv (.c 1) m n fun x => by simp only [Z.v_c, Z.v_mul, Z.v_add]; grind⟩
theorem Dd.cg {a b d : Z} (h : Dd p d a) (k : Cg p a b) : Dd p d b := by
  obtain ⟨u, hu⟩ := h
  exact ⟨u, k.symm.trans hu⟩
theorem Dd.cg' {a b d : Z} (h : Dd p d a) (k : Cg p d b) : Dd p b a := by
  obtain ⟨u, hu⟩ := h
  exact ⟨u, hu.lin2 k (.c 1) u fun x => by simp only [Z.v_c, Z.v_mul]; grind⟩
theorem Dd.none (d : Z) : Dd p d (.c 0) := ⟨.c 0, Cg.of_eq fun x => by rw [Z.v_mul, Z.v_c]; omega⟩
theorem Dd.len (hp : Pr p) {a d : List Nat} (ha : Nf p a) (hd : Nf p d) (h : Dd p (zo d) (zo a)) (na : a ≠ []) : d ≠ [] ∧ d.length ≤ a.length := by
  obtain ⟨u, hu⟩ := h
  obtain ⟨u', nu, hu'⟩ := nf_of hp.pos u
  have h1 : Cg p (zo a) (zo u' * zo d) := hu.lin2 hu' (.c 1) (.c (-1) * zo d) fun x => by simp only [Z.v_c, Z.v_mul]; grind
  have nd : d ≠ [] := by
    rintro rfl
    exact na (ha.of_zero hp.pos (h1.trans (Cg.of_eq fun x => by rw [Z.v_mul, Z.v_c, zo_nil]; omega)))
  have nu' : u' ≠ [] := by
    rintro rfl
    exact na (ha.of_zero hp.pos (h1.trans (Cg.of_eq fun x => by rw [Z.v_mul, Z.v_c, zo_nil]; omega)))
  have := Nf.len_mul hp nu hd ha h1 nu' nd
  have := len_pos nu'
  exact ⟨nd, by omega⟩
/-- It is 0, or its top coefficient is 1. -/
def Mo (a : List Nat) : Prop := a ≠ [] → a.getD (a.length - 1) 0 = 1
theorem Dd.eq (hp : Pr p) {a d : List Nat} (ha : Nf p a) (hd : Nf p d) (h : Dd p (zo d) (zo a)) (na : a ≠ []) (hl : a.length ≤ d.length) (ma : Mo a) (md : Mo d) : a = d := by
  obtain ⟨u, hu⟩ := h
  obtain ⟨u', nu, hu'⟩ := nf_of hp.pos u
  have h1 : Cg p (zo a) (zo u' * zo d) := hu.lin2 hu' (.c 1) (.c (-1) * zo d) fun x => by simp only [Z.v_c, Z.v_mul]; grind
  obtain ⟨nd, hdl⟩ := Dd.len hp ha hd ⟨u, hu⟩ na
  have nu' : u' ≠ [] := by
    rintro rfl
    exact na (ha.of_zero hp.pos (h1.trans (Cg.of_eq fun x => by rw [Z.v_mul, Z.v_c, zo_nil]; omega)))
  have h2 := Nf.len_mul hp nu hd ha h1 nu' nd
  have hl' : a.length = d.length := by omega
  obtain ⟨k, rfl⟩ : ∃ k, u' = [k] := by
    match u', (show u'.length = 1 by omega) with
    | [k], _ => exact ⟨k, rfl⟩
  have hk : k < p := nu.1 k (by simp)
  have h3 := h1.co (a.length - 1)
  have h4 := len_pos na
  have h5 : (zo [k] * zo d).co (a.length - 1) = (k : Int) * ((d.getD (d.length - 1) 0 : Nat) : Int) := by
    have := top_mulI (zi [k]) (zi d) 0 (d.length - 1) (by simp [zi]) (by rw [zi_length]; omega)
    rw [zi_getD, zi_getD, Nat.zero_add] at this
    rw [hl']
    exact this
  rw [zo_co, h5, ma na, md nd] at h3
  have hk1 : k = 1 := by
    obtain ⟨c, hc⟩ := h3
    have hp2 := hp.two
    have : c = 0 := by
      rcases Int.lt_trichotomy c 0 with h | h | h
      · have : (p : Int) * c ≤ (p : Int) * (-1) := Int.mul_le_mul_of_nonneg_left (by omega) (by omega)
        omega
      · exact h
      · have : (p : Int) * 1 ≤ (p : Int) * c := Int.mul_le_mul_of_nonneg_left (by omega) (by omega)
        omega
    subst this
    omega
  subst hk1
  exact ha.unique hd hp.pos (h1.trans (Cg.of_eq fun x => by rw [Z.v_mul]; show (1 + x * 0) * _ = _; grind))

/-- g: the greatest common divisor of a and b. -/
structure Gc (p : Nat) (a b : Z) (g : List Nat) : Prop where
  nf : Nf p g
  mo : Mo g
  lin : ∃ s t : Z, Cg p (zo g) (s * a + t * b)
  left : Dd p (zo g) a
  right : Dd p (zo g) b
theorem Gc.unique (hp : Pr p) {a b a' b' : Z} {g g' : List Nat} (h : Gc p a b g) (h' : Gc p a' b' g') (ha : Cg p a a') (hb : Cg p b b') : g = g' := by
  obtain ⟨s, t, h1⟩ := h.lin
  obtain ⟨s', t', h1'⟩ := h'.lin
  have d1 : Dd p (zo g') (zo g) := Dd.lin (h'.left.cg ha.symm) (h'.right.cg hb.symm) s t h1
  have d2 : Dd p (zo g) (zo g') := Dd.lin (h.left.cg ha) (h.right.cg hb) s' t' h1'
  by_cases ng : g = []
  · subst ng
    obtain ⟨u, hu⟩ := d2
    exact (h'.nf.of_zero hp.pos (hu.trans (Cg.of_eq fun x => by rw [Z.v_mul, Z.v_c, zo_nil]; omega))).symm
  · have h2 := Dd.len hp h.nf h'.nf d1 ng
    have h3 := Dd.len hp h'.nf h.nf d2 h2.1
    exact Dd.eq hp h.nf h'.nf d1 ng h3.2 h.mo h'.mo
end
end
section
/-- A value, modulo p. -/
theorem Cg.val {p : Nat} {a b : Z} (h : Cg p a b) (x : Int) : (p : Int) ∣ a.v x - b.v x := by
  obtain ⟨c, hc⟩ := h
  exact ⟨c.v x, by rw [hc x]; omega⟩
theorem ev_root (a : List Int) (r : Int) : ∃ q : List Int, ∀ x, ev a x = (x - r) * ev q x + ev a r := by
  induction a with
  | nil => exact ⟨[], fun x => by simp [ev]⟩
  | cons c a ih =>
    obtain ⟨q, hq⟩ := ih
    refine ⟨addI (0 :: q) [ev a r], fun x => ?_⟩
    simp only [ev_addI, ev]
    rw [hq x]
    grind
theorem Z.root (a : Z) (r : Int) : ∃ q : Z, ∀ x, a.v x = (x - r) * q.v x + a.v r := by
  obtain ⟨q, hq⟩ := ev_root a.l r
  exact ⟨⟨q⟩, hq⟩
theorem Nf.len_le {p : Nat} (hp : 0 < p) {r : List Nat} {z : Z} {n : Nat} (hr : Nf p r) (h : Cg p (zo r) z) (hz : ∀ i, n ≤ i → (p : Int) ∣ z.co i) : r.length ≤ n := by
  rcases Nat.lt_or_ge n r.length with h1 | h1
  · exfalso
    have h2 := h.co (r.length - 1)
    rw [zo_co] at h2
    have h3 := hz (r.length - 1) (by omega)
    refine hr.top hp (by rintro rfl; simp at h1) ?_
    have := Int.dvd_add h2 h3
    rwa [Int.sub_add_cancel] at this
  · exact h1
theorem zo_far {a : List Nat} {i : Nat} (h : a.length ≤ i) : (zo a).co i = 0 := by rw [zo_co, getD_nat h]; rfl
section
variable {p : Nat}
theorem roots_few (hp : Pr p) {a : List Nat} (ha : Nf p a) (na : a ≠ []) (rs : List Int) (hd : rs.Pairwise fun r s => ¬ (p : Int) ∣ s - r) (hr : ∀ r ∈ rs, (p : Int) ∣ (zo a).v r) : rs.length < a.length := by
  induction rs generalizing a with
  | nil => exact len_pos na
  | cons r rs ih =>
    obtain ⟨hd1, hd2⟩ := List.pairwise_cons.1 hd
    obtain ⟨q, hq⟩ := Z.root (zo a) r
    obtain ⟨q', nq, hq'⟩ := nf_of hp.pos q
    obtain ⟨k, hk⟩ := hr r (by simp)
    obtain ⟨m, nm, hm⟩ := nf_of hp.pos (Z.X - Z.c r)
    have h1 : Cg p (zo a) (zo q' * zo m) := by
      have h2 : Cg p (zo a) ((Z.X - Z.c r) * q) := ⟨.c k, fun x => by rw [Z.v_c, Z.v_mul, Z.v_sub, Z.v_X, Z.v_c, hq x, hk]⟩
      exact h2.lin3 hq' hm (.c 1) (.c (-1) * (Z.X - Z.c r)) (.c (-1) * zo q') fun x => by simp only [Z.v_c, Z.v_mul]; grind
    have hl : m.length ≤ 2 := hm |> nm.len_le hp.pos <| fun i hi => by
      have : (Z.X - Z.c r).co i = 0 := by
        rw [Z.co_sub]
        unfold Z.co Z.X Z.c
        rw [getD_none (by simpa using hi), getD_none (by simp; omega)]; rfl
      rw [this]; exact Int.dvd_zero _
    have hl2 : 2 ≤ m.length := by
      rcases Nat.lt_or_ge m.length 2 with h | h
      · exfalso
        have h2 := hm.co 1
        rw [zo_co, getD_nat (by omega)] at h2
        have h3 : (Z.X - Z.c r).co 1 = 1 := by rw [Z.co_sub]; simp [Z.co, Z.X, Z.c]
        rw [h3] at h2
        obtain ⟨c, hc⟩ := h2
        have hp2 := hp.two
        rcases (show c < 0 ∨ 0 ≤ c by omega) with h | h
        · have : (p : Int) * c ≤ (p : Int) * (-1) := Int.mul_le_mul_of_nonneg_left (by omega) (by omega)
          omega
        · have : (p : Int) * 0 ≤ (p : Int) * c := Int.mul_le_mul_of_nonneg_left (by omega) (by omega)
          omega
      · exact h
    have nm0 : m ≠ [] := by
      rintro rfl
      exact na (ha.of_zero hp.pos (h1.trans (Cg.of_eq fun x => by rw [Z.v_mul, Z.v_c, zo_nil]; omega)))
    have nq0 : q' ≠ [] := by
      rintro rfl
      exact na (ha.of_zero hp.pos (h1.trans (Cg.of_eq fun x => by rw [Z.v_mul, Z.v_c, zo_nil]; omega)))
    have h3 := Nf.len_mul hp nq nm ha h1 nq0 nm0
    have h4 := ih nq nq0 hd2 fun s hs => by
      have h5 := hr s (List.mem_cons_of_mem _ hs)
      rw [hq s, hk] at h5
      have h6 : (p : Int) ∣ (s - r) * q.v s := by
        have := Int.dvd_sub h5 (Int.dvd_mul_right (p : Int) k)
        rwa [Int.add_sub_cancel] at this
      rcases hp.int_mul h6 with h7 | h7
      · exact absurd h7 (hd1 s hs)
      · have := Int.dvd_add (hq'.val s) h7
        rwa [Int.sub_add_cancel] at this
    simp only [List.length_cons]
    omega
/-- What agrees at so many places as there are coefficients is one. -/
theorem told_by (hp : Pr p) {a b : List Nat} (ha : Nf p a) (hb : Nf p b) (rs : List Int) (hd : rs.Pairwise fun r s => ¬ (p : Int) ∣ s - r) (hr : ∀ r ∈ rs, (p : Int) ∣ (zo a).v r - (zo b).v r) (la : a.length ≤ rs.length) (lb : b.length ≤ rs.length) : a = b := by
  obtain ⟨d, nd, hde⟩ := nf_of hp.pos (zo a - zo b)
  have hl : d.length ≤ rs.length := nd.len_le hp.pos hde fun i hi => by
    rw [Z.co_sub, zo_far (by omega), zo_far (by omega)]; exact Int.dvd_zero _
  by_cases n0 : d = []
  · subst n0
    exact ha.unique hb hp.pos (hde.lin1 (.c (-1)) fun x => by rw [Z.v_c, Z.v_sub, zo_nil]; omega)
  · exfalso
    have := roots_few hp nd n0 rs hd fun r h => by
      have h1 := hde.val r
      rw [Z.v_sub] at h1
      have := Int.dvd_add h1 (hr r h)
      rwa [Int.sub_add_cancel] at this
    omega
end
end
section
open Go.RowKit

/-- Among the blocks that are there, block g alone has turned; new ones may lie behind. -/
structure Tn (g : Nat) (w w' : World) : Prop where
  os : w'.os = w.os
  tape : w'.tape = w.tape
  output : w'.output = w.output
  size : w.heap.size ≤ w'.heap.size
  block : ∀ k, k < w.heap.size → k ≠ g → w'.heap[k]? = w.heap[k]?
theorem Tn.refl (g : Nat) (w : World) : Tn g w w := ⟨rfl, rfl, rfl, Nat.le_refl _, fun _ _ _ => rfl⟩
theorem Tn.trans {g : Nat} {a b c : World} (h : Tn g a b) (k : Tn g b c) : Tn g a c :=
  ⟨k.os.trans h.os, k.tape.trans h.tape, k.output.trans h.output, Nat.le_trans h.size k.size, fun i hi hg => (k.block i (Nat.lt_of_lt_of_le hi h.size) hg).trans (h.block i hi hg)⟩
theorem Tn.of_below {g B : Nat} {w w' : World} (h : Below B w w') (hB : w.heap.size ≤ B) : Tn g w w' := ⟨h.os, h.tape, h.output, h.size, fun k hk _ => h.block k (by omega)⟩
theorem Tn.of_ch {g : Nat} {w w' : World} (h : Ch g w w') : Tn g w w' := ⟨h.os, h.tape, h.output, Nat.le_of_eq h.size.symm, fun k _ hg => h.block k hg⟩
/-- A block behind all that was there at a may turn, too. -/
theorem Tn.chNew {g g2 : Nat} {a b c : World} (h : Tn g a b) (k : Ch g2 b c) (hg : a.heap.size ≤ g2) : Tn g a c :=
  ⟨k.os.trans h.os, k.tape.trans h.tape, k.output.trans h.output, by rw [k.size]; exact h.size, fun i hi hg2 => (k.block i (by omega)).trans (h.block i hi hg2)⟩
theorem Tn.drewN {g : Nat} {a w : World} (h : Tn g a w) (n : Nat) : Tn g a (w.drewN n) := ⟨h.os, h.tape, h.output, h.size, h.block⟩
theorem Tn.drew {g : Nat} {a w : World} (h : Tn g a w) : Tn g a w.drew := ⟨h.os, h.tape, h.output, h.size, h.block⟩
theorem Tn.setCell {g : Nat} {a w : World} (h : Tn g a w) (i : Nat) (u : Value) : Tn g a (w.setCell ⟨g, i, none⟩ u) :=
  h.trans ⟨rfl, rfl, rfl, by simp [World.setCell], fun k _ hk => Below.heap_setCell _ _ _ _ hk⟩
theorem Tn.below {g B : Nat} {w w' : World} (h : Tn g w w') (hB : B ≤ g) (hs : B ≤ w.heap.size) : Below B w w' := ⟨h.os, h.tape, h.output, h.size, fun k hk => h.block k (by omega) (by omega)⟩
theorem Tn.cell {g : Nat} {w w' : World} (h : Tn g w w') {p : Addr} (hp : p.block < w.heap.size) (hne : p.block ≠ g) : w'.cell? p = w.cell? p := World.cell?_of_block (h.block p.block hp hne)
theorem Blk.tn {w w' : World} {g h : Nat} {t : TypeId} {vs : List Value} (hb : Blk w g t vs) (hc : Tn h w w') (hne : g ≠ h) : Blk w' g t vs := (hc.block g hb.lt hne).trans hb
theorem Tn.belowAll {g B : Nat} {w w1 w' : World} (h : Below B w w1) (k : Tn g w1 w') (hB : B ≤ g) (hs : B ≤ w1.heap.size) : Below B w w' := h.trans (k.below hB hs)


/-- What a call hands back: a slice at the head of a row of its own, from block B on, whose first cells are vs. -/
def Res (w : World) (B : Nat) (t : TypeId) (A : Option Addr) (c : Nat) (vs : List Value) : Prop :=
  vs.length ≤ c ∧ vs.length ≤ 281474976710656 ∧ (vs ≠ [] → ∃ g rest, A = some ⟨g, 0, none⟩ ∧ B ≤ g ∧ Blk w g t (vs ++ rest) ∧ vs.length + rest.length = c)

section
variable {w w' : World} {B B' : Nat} {t : TypeId} {A : Option Addr} {c : Nat} {vs : List Value}
theorem Res.rd (h : Res w B t A c vs) : Rd w w.heap.size A vs := fun hn => by
  obtain ⟨g, rest, rfl, _, hb, _⟩ := h.2.2 hn
  exact Rd.of_blk hb hb.lt 0 (fun k v hv => by
    rw [Nat.zero_add, List.getElem?_append_left (List.getElem?_eq_some_iff.1 hv).1]; exact hv) hn
theorem Res.none_ : Res w B t none 0 [] := ⟨by simp, by simp, fun h => absurd rfl h⟩
theorem Res.empty_ : Res w B t A c [] := ⟨by simp, by simp, fun h => absurd rfl h⟩
theorem Res.below (h : Res w B t A c vs) (hb : Below B' w w') (hB : w.heap.size ≤ B') : Res w' B t A c vs := ⟨h.1, h.2.1, fun hn => by
  obtain ⟨g, rest, e, hg, hk, hc⟩ := h.2.2 hn
  exact ⟨g, rest, e, hg, hk.below hb (by have := hk.lt; omega), hc⟩⟩
theorem Res.keepBut (h : Res w B t A c vs) {g : Nat} (hc : Tn g w w') (hne : vs ≠ [] → A ≠ some ⟨g, 0, none⟩) : Res w' B t A c vs := ⟨h.1, h.2.1, fun hn => by
  obtain ⟨k, rest, e, hg, hk, hcc⟩ := h.2.2 hn
  exact ⟨k, rest, e, hg, hk.tn hc (fun e2 => hne hn (by rw [e, e2])), hcc⟩⟩
theorem Res.mono (h : Res w B t A c vs) (hB : B' ≤ B) : Res w B' t A c vs := ⟨h.1, h.2.1, fun hn => by
  obtain ⟨g, rest, e, hg, hk, hc⟩ := h.2.2 hn
  exact ⟨g, rest, e, by omega, hk, hc⟩⟩
theorem Res.take (h : Res w B t A c vs) (n : Nat) : Res w B t A c (vs.take n) := ⟨by rw [List.length_take]; have := h.1; omega, by rw [List.length_take]; have := h.2.1; omega, fun hn => by
  obtain ⟨g, rest, e, hg, hk, hc⟩ := h.2.2 (by rintro rfl; simp at hn)
  exact ⟨g, vs.drop n ++ rest, e, hg, by rw [← List.append_assoc, List.take_append_drop]; exact hk, by rw [List.length_append, List.length_take, List.length_drop]; omega⟩⟩
theorem Res.of_blk {g : Nat} {rest : List Value} (h : Blk w g t (vs ++ rest)) (hg : B ≤ g) (hc : vs.length + rest.length = c) (hm : vs.length ≤ 281474976710656) : Res w B t (some ⟨g, 0, none⟩) c vs :=
  ⟨by omega, hm, fun _ => ⟨g, rest, rfl, hg, h, hc⟩⟩
theorem Res.of_blk0 {g : Nat} (h : Blk w g t vs) (hg : B ≤ g) (hm : vs.length ≤ 281474976710656) : Res w B t (some ⟨g, 0, none⟩) vs.length vs :=
  Res.of_blk (rest := []) (by simpa using h) hg (by simp) hm
end

theorem bcell {W w1 : World} (hb : Below W.heap.size W w1) : (∀ b o, b < W.heap.size → w1.cell? ⟨b, o, none⟩ = W.cell? ⟨b, o, none⟩) ∧ (∀ b o, b < W.heap.size → w1.frozen? ⟨b, o, none⟩ = W.frozen? ⟨b, o, none⟩) :=
  ⟨fun b o h => hb.cell (p := ⟨b, o, none⟩) h, fun b o h => hb.frozen (p := ⟨b, o, none⟩) h⟩
theorem bdrewN {B : Nat} {a w : World} (h : Below B a w) (n : Nat) : Below B a (w.drewN n) := h.trans (((Dr.refl w).step n).below B)
/-- The blocks from V on, below U, are as they were. -/
def Mid (V U : Nat) (w w' : World) : Prop := ∀ k, V ≤ k → k < U → w'.heap[k]? = w.heap[k]?
theorem Mid.refl (V U : Nat) (w : World) : Mid V U w w := fun _ _ _ => rfl
theorem Mid.tn {V U k : Nat} {a w w' : World} (h : Mid V U a w) (ht : Tn k w w') (hk : k < V) (hU : U ≤ w.heap.size) : Mid V U a w' := fun i h1 h2 => (ht.block i (by omega) (by omega)).trans (h i h1 h2)
theorem Mid.below {V U B : Nat} {a w w' : World} (h : Mid V U a w) (hb : Below B w w') (hU : U ≤ B) : Mid V U a w' := fun i h1 h2 => (hb.block i (by omega)).trans (h i h1 h2)
theorem Blk.mid {V U : Nat} {w w' : World} {g : Nat} {t : TypeId} {vs : List Value} (hb : Blk w g t vs) (h : Mid V U w w') (h1 : V ≤ g) (h2 : g < U) : Blk w' g t vs := (h g h1 h2).trans hb
theorem bel1 {w w1 : World} {o : Obj} (h : Below (w.alloc o).heap.size (w.alloc o) w1) : Below w.heap.size w w1 := ((Below.refl _ _).alloc (Nat.le_refl _) _).trans (h.mono (by simp))
theorem bel2 {w w1 : World} {o o2 : Obj} (h : Below ((w.alloc o).alloc o2).heap.size ((w.alloc o).alloc o2) w1) : Below w.heap.size w w1 := (((Below.refl _ _).alloc (Nat.le_refl _) _).alloc (by simp) _).trans (h.mono (by simp; omega))
theorem bel3 {w w1 : World} {o o2 o3 : Obj} (h : Below (((w.alloc o).alloc o2).alloc o3).heap.size (((w.alloc o).alloc o2).alloc o3) w1) : Below w.heap.size w w1 := ((((Below.refl _ _).alloc (Nat.le_refl _) _).alloc (by simp) _).alloc (by simp; omega) _).trans (h.mono (by simp; omega))
theorem u32s_ne {xs : List Nat} {k : Nat} (h : k < xs.length) : u32s xs ≠ [] := by intro e; have := u32s_length xs; rw [e] at this; simp at this; omega
theorem u32s_nil_iff {xs : List Nat} : u32s xs = [] ↔ xs = [] := by simp [u32s]
theorem u32s_set (xs : List Nat) (i x : Nat) : (u32s xs).set i (Value.int .u32 (x : Int)) = u32s (xs.set i x) := by simp [u32s, List.map_set]
theorem u32s_append (xs ys : List Nat) : u32s (xs ++ ys) = u32s xs ++ u32s ys := by simp [u32s]
theorem u32s_snoc (xs : List Nat) (x : Nat) : u32s (xs ++ [x]) = u32s xs ++ [Value.int .u32 (x : Int)] := by simp [u32s]
theorem Rd.at32 {w : World} {B : Nat} {A : Option Addr} {xs : List Nat} (h : Rd w B A (u32s xs)) {k : Nat} (hk : k < xs.length) : ∃ b off, A = some ⟨b, off, none⟩ ∧ b < B ∧ w.cell? ⟨b, off + k, none⟩ = some (.int .u32 (xs[k] : Nat)) := by
  obtain ⟨b, off, e, hb, hc⟩ := h (u32s_ne hk)
  exact ⟨b, off, e, hb, hc k _ (u32s_at hk)⟩

/-- How many columns. -/
def cols : List (List Nat) → Nat
  | [] => 0
  | r :: _ => r.length
/-- Every row is as long as the first. -/
def Rect (M : List (List Nat)) : Prop := ∀ r ∈ M, r.length = cols M
theorem Rect.at_ {M : List (List Nat)} (h : Rect M) (i : Nat) (hi : i < M.length) : M[i].length = cols M := h _ (List.getElem_mem hi)
def DigM (b : Nat) (M : List (List Nat)) : Prop := ∀ r ∈ M, ∀ x ∈ r, x < b
theorem DigM.at_ {b : Nat} {M : List (List Nat)} (h : DigM b M) {i k : Nat} (hi : i < M.length) (hk : k < M[i].length) : M[i][k] < b := h _ (List.getElem_mem hi) _ (List.getElem_mem hk)
theorem cols_eq (M : List (List Nat)) (h : 0 < M.length) : cols M = M[0].length := by
  cases M with
  | nil => simp at h
  | cons _ _ => rfl

/-- A slice of rows reads as these, all of it below block B; rows no longer than any slice can be. -/
def RdM (w : World) (B : Nat) (A : Option Addr) (M : List (List Nat)) : Prop :=
  M ≠ [] → ∃ b off, A = some ⟨b, off, none⟩ ∧ b < B ∧ ∀ i (h : i < M.length), ∃ Ai ci, w.cell? ⟨b, off + i, none⟩ = some (.slice Ai M[i].length ci) ∧ M[i].length ≤ ci ∧ M[i].length ≤ 281474976710656 ∧ Rd w B Ai (u32s M[i])
section
variable {w w' : World} {B B' : Nat} {A : Option Addr} {M : List (List Nat)}
theorem RdM.nil_ : RdM w B A [] := fun h => absurd rfl h
theorem RdM.mono (h : RdM w B A M) (hB : B ≤ B') : RdM w B' A M := fun hn => by
  obtain ⟨b, off, e, hb, hc⟩ := h hn
  exact ⟨b, off, e, by omega, fun i hi => by obtain ⟨Ai, ci, a1, a2, a3, a4⟩ := hc i hi; exact ⟨Ai, ci, a1, a2, a3, a4.mono hB⟩⟩
theorem RdM.keep (h : RdM w B A M) (hk : ∀ p : Addr, p.block < B → w'.cell? p = w.cell? p) : RdM w' B A M := fun hn => by
  obtain ⟨b, off, e, hb, hc⟩ := h hn
  exact ⟨b, off, e, hb, fun i hi => by obtain ⟨Ai, ci, a1, a2, a3, a4⟩ := hc i hi; exact ⟨Ai, ci, (hk _ hb).trans a1, a2, a3, a4.keep hk⟩⟩
theorem RdM.below (h : RdM w B A M) (hb : Below B w w') : RdM w' B A M := h.keep fun _ hp => hb.cell hp
theorem RdM.dr (h : RdM w B A M) (k : Dr w w') : RdM w' B A M := h.below (k.below B)
theorem RdM.at_ (h : RdM w B A M) {i : Nat} (hi : i < M.length) : ∃ b off Ai ci, A = some ⟨b, off, none⟩ ∧ b < B ∧ w.cell? ⟨b, off + i, none⟩ = some (.slice Ai M[i].length ci) ∧ M[i].length ≤ ci ∧ M[i].length ≤ 281474976710656 ∧ Rd w B Ai (u32s M[i]) := by
  obtain ⟨b, off, e, hb, hc⟩ := h (by rintro rfl; simp at hi)
  obtain ⟨Ai, ci, a1, a2, a3, a4⟩ := hc i hi
  exact ⟨b, off, Ai, ci, e, hb, a1, a2, a3, a4⟩
end

/-- The headers of rows. -/
def hdrs (hs : List (Option Addr × Nat)) (M : List (List Nat)) : List Value := List.zipWith (fun h r => Value.slice h.1 r.length h.2) hs M
theorem hdrs_length {hs : List (Option Addr × Nat)} {M : List (List Nat)} (h : hs.length = M.length) : (hdrs hs M).length = M.length := by simp [hdrs, h]
theorem hdrs_at {hs : List (Option Addr × Nat)} {M : List (List Nat)} {i : Nat} (h1 : i < hs.length) (h2 : i < M.length) : (hdrs hs M)[i]? = some (.slice hs[i].1 M[i].length hs[i].2) := by
  simp [hdrs, List.getElem?_zipWith, List.getElem?_eq_getElem h1, List.getElem?_eq_getElem h2]
theorem hdrs_set (hs : List (Option Addr × Nat)) (M : List (List Nat)) (i : Nat) (h : Option Addr × Nat) (r : List Nat) :
    (hdrs hs M).set i (.slice h.1 r.length h.2) = hdrs (hs.set i h) (M.set i r) := by
  apply List.ext_getElem?
  intro k
  simp only [hdrs, List.getElem?_set, List.getElem?_zipWith, List.length_zipWith]
  by_cases hk : i = k
  · subst hk
    simp only [if_true]
    by_cases h1 : i < hs.length
    · by_cases h2 : i < M.length
      · simp [h1, h2, Nat.lt_min]
      · simp [h1, h2]; omega
    · simp [h1]; omega
  · simp [hk]
theorem hdrs_snoc {hs : List (Option Addr × Nat)} {M : List (List Nat)} (e : hs.length = M.length) (h : Option Addr × Nat) (r : List Nat) :
    hdrs (hs ++ [h]) (M ++ [r]) = hdrs hs M ++ [.slice h.1 r.length h.2] := by
  unfold hdrs
  rw [List.zipWith_append e]
  rfl

/-- All rows lie below block U. -/
def UB (U : Nat) (hs : List (Option Addr × Nat)) : Prop := ∀ h ∈ hs, (∀ a, h.1 = some a → a.block < U) ∧ h.2 ≤ maxLen
theorem UB.mono {U U' : Nat} {hs : List (Option Addr × Nat)} (h : UB U hs) (hU : U ≤ U') : UB U' hs := fun x hx => ⟨fun a ha => Nat.lt_of_lt_of_le ((h x hx).1 a ha) hU, (h x hx).2⟩
theorem UB.none_ (r U : Nat) : UB U (List.replicate r (none, 0)) := fun x hx => by
  rw [(List.mem_replicate.1 hx).2]; exact ⟨(fun a ha => by cases ha), Nat.zero_le _⟩
theorem UB.set_ {U : Nat} {hs : List (Option Addr × Nat)} (h : UB U hs) (i : Nat) {b : Nat} (o : Nat) (hb : b < U) {c : Nat} (hc : c ≤ maxLen) : UB U (hs.set i (some ⟨b, o, none⟩, c)) := fun x hx => by
  rcases List.mem_or_eq_of_mem_set hx with hx | rfl
  · exact h x hx
  · refine ⟨fun a ha => ?_, hc⟩
    obtain rfl : (⟨b, o, none⟩ : Addr) = a := by simpa using ha
    exact hb
theorem UB.at_ {U : Nat} {hs : List (Option Addr × Nat)} (h : UB U hs) {i : Nat} (hi : i < hs.length) {b o : Nat} (e : hs[i].1 = some ⟨b, o, none⟩) : b < U := (h _ (List.getElem_mem hi)).1 _ e
theorem UB.cap {U : Nat} {hs : List (Option Addr × Nat)} (h : UB U hs) {i : Nat} (hi : i < hs.length) : hs[i].2 ≤ maxLen := (h _ (List.getElem_mem hi)).2

/-- A matrix in memory of one's own, from block B on: block g holds the headers, each row that is not empty lies alone in a block. -/
structure Own (w : World) (B g : Nat) (hs : List (Option Addr × Nat)) (M : List (List Nat)) : Prop where
  len : hs.length = M.length
  top : ∃ rest, Blk w g 22 (hdrs hs M ++ rest)
  lo : B ≤ g
  row : ∀ i (h : i < M.length), Res w B 24 (hs[i]'(len ▸ h)).1 (hs[i]'(len ▸ h)).2 (u32s M[i])
  ne : ∀ i (h : i < M.length), M[i] ≠ [] → (hs[i]'(len ▸ h)).1 ≠ some ⟨g, 0, none⟩
  nd : ∀ i j (hi : i < M.length) (hj : j < M.length), i ≠ j → M[i] ≠ [] → M[j] ≠ [] → (hs[i]'(len ▸ hi)).1 ≠ (hs[j]'(len ▸ hj)).1

section
variable {w w' : World} {B B' g : Nat} {hs : List (Option Addr × Nat)} {M : List (List Nat)}
theorem Own.lt (h : Own w B g hs M) : g < w.heap.size := by obtain ⟨rest, hb⟩ := h.top; exact hb.lt
theorem Own.below (h : Own w B g hs M) (hb : Below B' w w') (hB : w.heap.size ≤ B') : Own w' B g hs M :=
  ⟨h.len, by obtain ⟨rest, ht⟩ := h.top; exact ⟨rest, ht.below hb (by have := ht.lt; omega)⟩, h.lo, fun i hi => (h.row i hi).below hb hB, h.ne, h.nd⟩
theorem Own.belowU {U : Nat} (h : Own w B g hs M) (hu : UB U hs) (hg : g < U) (hb : Below U w w') : Own w' B g hs M :=
  ⟨h.len, by obtain ⟨rest, ht⟩ := h.top; exact ⟨rest, ht.below hb hg⟩, h.lo, fun i hi => ⟨(h.row i hi).1, (h.row i hi).2.1, fun hn => by
    obtain ⟨k, rest, e, hk, hbk, hc⟩ := (h.row i hi).2.2 hn
    exact ⟨k, rest, e, hk, hbk.below hb (hu.at_ (h.len ▸ hi) e), hc⟩⟩, h.ne, h.nd⟩
theorem Own.tnLow {k : Nat} (h : Own w B g hs M) (ht : Tn k w w') (hk : k < B) : Own w' B g hs M :=
  ⟨h.len, by obtain ⟨rest, hb⟩ := h.top; exact ⟨rest, hb.tn ht (by have := h.lo; omega)⟩, h.lo, fun i hi => ⟨(h.row i hi).1, (h.row i hi).2.1, fun hn => by
    obtain ⟨j, rest, e, hj, hbk, hc⟩ := (h.row i hi).2.2 hn
    exact ⟨j, rest, e, hj, hbk.tn ht (by omega), hc⟩⟩, h.ne, h.nd⟩
theorem Own.dr (h : Own w B g hs M) (hd : Dr w w') : Own w' B g hs M := h.below (hd.below w.heap.size) (Nat.le_refl _)
theorem Own.drew (h : Own w B g hs M) : Own w.drew B g hs M := h.dr (Dr.refl w).drew
theorem Own.drewN (h : Own w B g hs M) (n : Nat) : Own (w.drewN n) B g hs M := h.dr ((Dr.refl w).step n)
theorem Own.mono (h : Own w B g hs M) (hB : B' ≤ B) : Own w B' g hs M :=
  ⟨h.len, h.top, Nat.le_trans hB h.lo, fun i hi => (h.row i hi).mono hB, h.ne, h.nd⟩
theorem Own.head (h : Own w B g hs M) {i : Nat} (hi : i < M.length) : w.cell? ⟨g, i, none⟩ = some (.slice (hs[i]'(h.len ▸ hi)).1 M[i].length (hs[i]'(h.len ▸ hi)).2) ∧ w.frozen? ⟨g, i, none⟩ = false := by
  obtain ⟨rest, ht⟩ := h.top
  refine ⟨?_, ht.frozen i⟩
  rw [ht.cell, List.getElem?_append_left (by rw [hdrs_length h.len]; exact hi), hdrs_at (h.len ▸ hi) hi]
theorem Own.rd (h : Own w B g hs M) : RdM w w.heap.size (some ⟨g, 0, none⟩) M := fun _ =>
  ⟨g, 0, rfl, h.lt, fun i hi => ⟨_, _, by rw [Nat.zero_add]; exact (h.head hi).1, by have := (h.row i hi).1; rw [u32s_length] at this; exact this, (by have := (h.row i hi).2.1; rw [u32s_length] at this; exact this), (h.row i hi).rd⟩⟩
theorem Own.at_ (h : Own w B g hs M) {i k : Nat} (hi : i < M.length) (hk : k < M[i].length) :
    ∃ gi rest, (hs[i]'(h.len ▸ hi)).1 = some ⟨gi, 0, none⟩ ∧ gi ≠ g ∧ B ≤ gi ∧ Blk w gi 24 (u32s M[i] ++ rest) ∧ M[i].length + rest.length = (hs[i]'(h.len ▸ hi)).2 := by
  obtain ⟨gi, rest, e, hB, hb, hc⟩ := (h.row i hi).2.2 (u32s_ne hk)
  refine ⟨gi, rest, e, fun e2 => ?_, hB, hb, by rw [u32s_length] at hc; exact hc⟩
  refine h.ne i hi (fun e3 => by rw [e3] at hk; simp at hk) ?_
  rw [e, e2]
/-- Row i's block alone has turned. -/
theorem Own.setRow (h : Own w B g hs M) {i gi : Nat} (hi : i < M.length) {r : List Nat} {rest : List Value} (e : (hs[i]'(h.len ▸ hi)).1 = some ⟨gi, 0, none⟩) (hc : Tn gi w w') (hb : Blk w' gi 24 (u32s r ++ rest)) (hr : r.length = M[i].length) (hg : gi ≠ g) (hB : B ≤ gi) (hcap : M[i].length + rest.length = (hs[i]'(h.len ▸ hi)).2) (hn : M[i] ≠ []) : Own w' B g hs (M.set i r) := by
  have hlen : hs.length = (M.set i r).length := by rw [List.length_set]; exact h.len
  have hnil : ∀ j (hj : j < (M.set i r).length), (M.set i r)[j] ≠ [] → M[j]'(by simpa using hj) ≠ [] := fun j hj hne => by
    rw [List.getElem_set] at hne
    split at hne
    · rename_i e; subst e; exact hn
    · exact hne
  refine ⟨hlen, ?_, h.lo, fun j hj => ?_, fun j hj hne => h.ne j (by simpa using hj) (hnil j hj hne), fun j k hj hk hjk h1 h2 => h.nd j k (by simpa using hj) (by simpa using hk) hjk (hnil j hj h1) (hnil k hk h2)⟩
  · obtain ⟨rest2, ht⟩ := h.top
    refine ⟨rest2, ?_⟩
    have e1 : hdrs hs (M.set i r) = hdrs hs M := by
      have := hdrs_set hs M i (hs[i]'(h.len ▸ hi)) r
      rw [List.set_getElem_self] at this
      rw [← this, hr]
      have h3 := hdrs_at (hs := hs) (M := M) (h.len ▸ hi) hi
      obtain ⟨h4, h5⟩ := List.getElem?_eq_some_iff.1 h3
      rw [← h5, List.set_getElem_self]
    rw [e1]
    exact ht.tn hc hg.symm
  · have hj' : j < M.length := by simpa using hj
    by_cases hij : i = j
    · subst hij
      simp only [List.getElem_set_self]
      refine ⟨by rw [u32s_length, hr]; omega, by have := (h.row i hi).2.1; rw [u32s_length] at this; rw [u32s_length, hr]; exact this, fun _ => ⟨gi, rest, e, hB, hb, by rw [u32s_length, hr]; exact hcap⟩⟩
    · rw [List.getElem_set_ne hij]
      refine (h.row j hj').keepBut hc fun hne e2 => ?_
      refine h.nd i j hi hj' hij hn (fun e3 => hne (by rw [e3]; rfl)) ?_
      rw [e, e2]
/-- A header is stored: row i is another one. -/
theorem Own.setHead (h : Own w B g hs M) {i : Nat} (hi : i < M.length) {A' : Option Addr} {c' n' : Nat} {r' : List Nat} (hn' : n' = r'.length) (hres : Res w B 24 A' c' (u32s r'))
    (hg : r' ≠ [] → A' ≠ some ⟨g, 0, none⟩) (hd : r' ≠ [] → ∀ j (hj : j < M.length), j ≠ i → M[j] ≠ [] → A' ≠ (hs[j]'(h.len ▸ hj)).1) :
    Own (w.setCell ⟨g, i, none⟩ (.slice A' n' c')) B g (hs.set i (A', c')) (M.set i r') := by
  subst hn'
  have hch := Tn.of_ch ((Ch.refl g w).setCell i (.slice A' r'.length c'))
  have hlen : (hs.set i (A', c')).length = (M.set i r').length := by rw [List.length_set, List.length_set]; exact h.len
  have hsl : i < hs.length := h.len ▸ hi
  refine ⟨hlen, ?_, h.lo, fun j hj => ?_, fun j hj hne => ?_, fun j k hj hk hjk h1 h2 => ?_⟩
  · obtain ⟨rest, ht⟩ := h.top
    refine ⟨rest, ?_⟩
    have h1 := ht.set_ i (.slice A' r'.length c')
    rw [List.set_append_left _ _ (by rw [hdrs_length h.len]; exact hi)] at h1
    rw [← hdrs_set]; exact h1
  · have hj' : j < M.length := by simpa using hj
    by_cases hij : i = j
    · subst hij
      simp only [List.getElem_set_self]
      exact hres.keepBut hch fun hne => hg (fun e => hne (by rw [e]; rfl))
    · simp only [List.getElem_set_ne hij]
      exact (h.row j hj').keepBut hch fun hne => h.ne j hj' (fun e => hne (by rw [e]; rfl))
  · have hj' : j < M.length := by simpa using hj
    by_cases hij : i = j
    · subst hij
      simp only [List.getElem_set_self] at hne ⊢
      exact hg hne
    · simp only [List.getElem_set_ne hij] at hne ⊢
      exact h.ne j hj' hne
  · have hj' : j < M.length := by simpa using hj
    have hk' : k < M.length := by simpa using hk
    by_cases hij : i = j
    · subst hij
      have hik : i ≠ k := hjk
      simp only [List.getElem_set_self] at h1 ⊢
      simp only [List.getElem_set_ne hik] at h2 ⊢
      exact hd h1 k hk' hik.symm h2
    · by_cases hik : i = k
      · subst hik
        simp only [List.getElem_set_self] at h2 ⊢
        simp only [List.getElem_set_ne hij] at h1 ⊢
        exact fun e => hd h2 j hj' (Ne.symm hij) h1 e.symm
      · simp only [List.getElem_set_ne hij] at h1 ⊢
        simp only [List.getElem_set_ne hik] at h2 ⊢
        exact h.nd j k hj' hk' hjk h1 h2
/-- Each row's block was there. -/
theorem Own.rowLt (h : Own w B g hs M) {i : Nat} (hi : i < M.length) (hn : M[i] ≠ []) {gi : Nat} (e : (hs[i]'(h.len ▸ hi)).1 = some ⟨gi, 0, none⟩) : gi < w.heap.size := by
  obtain ⟨gj, rest, e2, _, hb, _⟩ := (h.row i hi).2.2 (fun e3 => hn (u32s_nil_iff.1 e3))
  rw [e] at e2
  obtain rfl : gi = gj := by simpa using e2
  exact hb.lt
/-- A header of a row in a new block is stored. -/
theorem Own.setNew (h : Own w B g hs M) (hB : B ≤ w.heap.size) {i : Nat} (hi : i < M.length) {w1 : World} (hb : Below w.heap.size w w1) {gi c' n' : Nat} {r' : List Nat} {rest : List Value} (hgi : w.heap.size ≤ gi) (hn' : n' = r'.length) (hblk : Blk w1 gi 24 (u32s r' ++ rest)) (hc : r'.length + rest.length = c') (hm : r'.length ≤ 281474976710656) :
    Own (w1.setCell ⟨g, i, none⟩ (.slice (some ⟨gi, 0, none⟩) n' c')) B g (hs.set i (some ⟨gi, 0, none⟩, c')) (M.set i r') := by
  have hg := h.lt
  refine (h.below hb (Nat.le_refl _)).setHead hi hn' (Res.of_blk hblk (by omega) (by rw [u32s_length]; exact hc) (by rw [u32s_length]; exact hm)) (fun _ e => ?_) (fun _ j hj hji hne e => ?_)
  · simp only [Option.some.injEq, Addr.mk.injEq, and_true] at e
    omega
  · have := h.rowLt hj hne e.symm
    omega
end
end
section
open Go.RowKit

theorem one_u32s (xs : List Nat) : ∀ u ∈ u32s xs, u.oneCell' = true := fun u hu => by
  obtain ⟨x, _, rfl⟩ := List.mem_map.1 hu; rfl
theorem made_one (z : Value) (n : Nat) (hz : z.cells = #[z]) : madeCells z.cells (n * 1) = (List.replicate n z).toArray := by
  rw [hz, Nat.mul_one]
  apply Array.ext'
  simp only [madeCells, List.size_toArray, List.length_singleton, Nat.mod_one]
  simp [Array.toList_map, List.map_const']
theorem Tryd.info32 : (Tryd.prog.info? 24).map (fun i => (i.zero, i.size, i.bytes)) = some (some (.int .u32 0), 1, 4) := by kernel_rfl
theorem mkP (n : Nat) (h : n ≤ 70368744177664) (w : World) : (Instr.makeSlice 23 (.int .i64 (n : Int)) (.int .i64 (n : Int))).run Tryd.prog w = .ok (.slice (some ⟨w.heap.size, 0, none⟩) n n) (w.alloc (.cells (List.replicate n (Value.int .u32 0)).toArray 24)) := by
  obtain ⟨i0, hi, hz0, hz1, hz2⟩ := info_parts Tryd.info32
  have hr := run_make (P := Tryd.prog) w 23 24 i0 (.int .u32 0) Tryd.underlying23 hi hz0 .i64 .i64 n n (by omega) (by omega) (by rw [hz2]; omega) (by omega)
  rw [hz1, Int.toNat_natCast, made_one _ _ rfl] at hr
  exact hr
theorem zeros_u32 (n : Nat) : List.replicate n (Value.int .u32 0) = u32s (List.replicate n 0) := by simp [u32s]

/-- The field modulo p, by value. -/
abbrev fieldV (p sp : Nat) : Value := .agg #[.int .u64 (p : Int), .int .u64 (sp : Int)]
/-- What a call hands back: a polynomial in memory of its own. -/
def PR (w w' : World) (v : Value) (r : List Nat) : Prop := ∃ A c, v = .slice A r.length c ∧ Res w' w.heap.size 24 A c (u32s r) ∧ Below w.heap.size w w'
/-- A polynomial is the only answer. -/
def PR1 (w : World) (r : List Nat) (e : Ending) (w' : World) : Prop := ∃ v, e = .returned v ∧ PR w w' v r
/-- A list as it is read. -/
def Big : Nat := 17592186044416

theorem take_nil_iff {xs : List Nat} {n : Nat} (h : n ≤ xs.length) : (u32s xs).take n = [] ↔ n = 0 := by
  rw [List.take_eq_nil_iff]
  constructor
  · rintro (h1 | h1)
    · exact h1
    · have := u32s_length xs; rw [h1] at this; simp at this; omega
  · exact Or.inl
theorem trimL_take_zero (xs : List Nat) (m : Nat) (h : m < xs.length) (h0 : xs[m] = 0) : trimL (xs.take (m + 1)) = trimL (xs.take m) := by
  rw [List.take_succ_eq_append_getElem h, h0, trimL_snoc_zero]
theorem trimL_take_pos (xs : List Nat) (m : Nat) (h : m < xs.length) (h0 : xs[m] ≠ 0) : (trimL (xs.take (m + 1))).length = m + 1 := by
  rw [List.take_succ_eq_append_getElem h, trimL_snoc_pos _ _ h0]; simp; omega
theorem u32s_trim (xs : List Nat) : u32s (trimL xs) = (u32s xs).take (trimL xs).length := by
  unfold u32s; rw [← List.map_take, trimL_take]

set_option maxHeartbeats 400000 in
theorem trim_any (A : Option Addr) (c : Nat) (xs : List Nat) (w : World) (B : Nat) (hr : Rd w B A (u32s xs)) (hc : xs.length ≤ c) (hm : xs.length ≤ 281474976710656) :
    Calls Tryd.prog 76 #[.slice A xs.length c] w fun e w' => e = .returned (.slice A (trimL xs).length c) ∧ w = w' := by
  go_enter Tryd.func76, Tryd.ntmps76
  go_wp2
  go_loop [0] (fun v => ∃ m : Nat, m ≤ xs.length ∧ v = .slice A m c ∧ trimL (xs.take m) = trimL xs) (fun v => match v with | .slice _ m _ => m | _ => 0)
  case atStart => exact ⟨xs.length, Nat.le_refl _, rfl, by simp⟩
  case round =>
    obtain ⟨m, hm1, rfl, ht⟩ := hrel
    have Ht := Lib.hid ht; clear ht
    rcases m with _ | m
    · go_wp2
      go_ret
      have h0 : (trimL xs).length = 0 := by rw [← Ht.out]; rfl
      exact ⟨by rw [h0]; rfl, rfl⟩
    · obtain ⟨b, off, rfl, hb, hcell⟩ := hr (by intro e; have := u32s_length xs; rw [e] at this; simp at this; omega)
      have hcl := hcell m _ (u32s_at (by omega))
      clear hcell
      by_cases h0 : xs[m] = 0
      · have hz := trimL_take_zero xs m (by omega) h0
        rw [h0] at hcl
        have Hz := Lib.hid hz
        clear hz h0
        go_wp2
        go_round
        case rel => exact ⟨m, by omega, rfl, by rw [← Hz.out]; exact Ht.out⟩
        case measure => simp
      · have hz := trimL_take_pos xs m (by omega) h0
        have Hz := Lib.hid hz
        have hne : ((xs[m] : Int) == 0) = false := by simp; omega
        clear hz
        go_wp2
        go_ret
        exact ⟨by rw [← Hz.out, Ht.out]; rfl, rfl⟩

theorem trim_own (W : World) (g n : Nat) (ys : List Nat) (hy : ys.length = n) (hb : Blk W g 24 (u32s ys)) (hn : n ≤ 281474976710656) :
    Calls Tryd.prog 76 #[.slice (some ⟨g, 0, none⟩) n n] W fun e w' => e = .returned (.slice (some ⟨g, 0, none⟩) (trimL ys).length n) ∧ W = w' := by
  subst hy
  exact trim_any _ _ ys W (g + 1) (Rd.of_blk hb (by omega) 0 (fun k v hv => by rw [Nat.zero_add]; exact hv)) (Nat.le_refl _) hn

/-- What trim hands back of a row of one's own. -/
theorem PR.of_trim {w w' : World} {g : Nat} {xs : List Nat} (hb : Blk w' g 24 (u32s xs)) (hg : w.heap.size ≤ g) (hm : xs.length ≤ 281474976710656) (hw : Below w.heap.size w w') : PR w w' (.slice (some ⟨g, 0, none⟩) (trimL xs).length xs.length) (trimL xs) := by
  refine ⟨_, _, rfl, ?_, hw⟩
  rw [u32s_trim]
  have := (Res.of_blk0 (B := w.heap.size) hb hg (by rw [u32s_length]; exact hm)).take (trimL xs).length
  rwa [u32s_length] at this
theorem PR.of_blk {w w' : World} {g : Nat} {xs : List Nat} (hb : Blk w' g 24 (u32s xs)) (hg : w.heap.size ≤ g) (hm : xs.length ≤ 281474976710656) (hw : Below w.heap.size w w') : PR w w' (.slice (some ⟨g, 0, none⟩) xs.length xs.length) xs := by
  refine ⟨_, _, rfl, ?_, hw⟩
  have := Res.of_blk0 (B := w.heap.size) hb hg (by rw [u32s_length]; exact hm)
  rwa [u32s_length] at this
theorem PR1.of_trim {w w' : World} {g n : Nat} {ys r : List Nat} (hb : Blk w' g 24 (u32s ys)) (hy : ys.length = n) (hr : r = trimL ys) (hg : w.heap.size ≤ g) (hm : n ≤ 281474976710656) (hw : Below w.heap.size w w') : PR1 w r (.returned (.slice (some ⟨g, 0, none⟩) (trimL ys).length n)) w' := by
  subst hy hr
  exact ⟨_, rfl, PR.of_trim hb hg hm hw⟩
theorem PR.none_ {w w' : World} (hw : Below w.heap.size w w') : PR w w' (.slice none 0 0) [] := ⟨none, 0, rfl, Res.none_, hw⟩
theorem PR.mono {w w1 w' : World} {v : Value} {r : List Nat} (h : PR w1 w' v r) (hb : Below w.heap.size w w1) : PR w w' v r := by
  obtain ⟨A, c, e, hr, hw⟩ := h
  exact ⟨A, c, e, hr.mono hb.size, hb.trans (hw.mono hb.size)⟩
theorem PR.later {w w1 w' : World} {v : Value} {r : List Nat} (h : PR w w1 v r) (hb : Below w1.heap.size w1 w') : PR w w' v r := by
  obtain ⟨A, c, e, hr, hw⟩ := h
  exact ⟨A, c, e, hr.below hb (Nat.le_refl _), hw.trans (hb.mono hw.size)⟩

theorem Blk.new2 {w : World} {o : Obj} {t : TypeId} {cs : Array Value} {vs : List Value} (e : cs = vs.toArray) : Blk ((w.alloc o).alloc (.cells cs t (0, 0))) (w.heap.size + 1) t vs := by
  have h := Blk.new_ (w := w.alloc o) (t := t) e
  rwa [show (w.alloc o).heap.size = w.heap.size + 1 by simp] at h
theorem repl_u32 (n : Nat) : Array.replicate n (Value.int .u32 0) = (u32s (List.replicate n 0)).toArray := by simp [u32s]
theorem Rd.alloc {w : World} {B : Nat} {A : Option Addr} {vs : List Value} (h : Rd w B A vs) (hB : B ≤ w.heap.size) (o : Obj) : Rd (w.alloc o) B A vs := h.below ((Below.refl _ _).alloc hB _)
/-- copy into a row of one's own. -/
theorem wpList_copyP {P : Program} {w : World} {ops : Array Oper} {rest : List Oper} {o : Oper} {a : Act} {Q : Exit → Act → World → Prop} (hgd : o.guard = none) (d s : Operand) (dT sT : TypeId)
    (ho : o.op = .call { callee := .builtin .copy, args := #[d, s], argTypes := #[dT, sT] }) (elem : TypeId) (hu : P.underlying dT = some (.slice elem)) (hsz : (P.info? elem).map (·.size) = some 1)
    (sp : Option Addr) (g off dLen dCap sLen sCap : Nat) (hd : a.eval d = .slice (some ⟨g, off, none⟩) dLen dCap) (hs : a.eval s = .slice sp sLen sCap) (t : TypeId) (zs xs : List Nat) (B C : Nat) (w0 : World)
    (hg : Blk w g t (u32s zs)) (hr : Rd w B sp (u32s xs)) (hn : xs.length = Nat.min sLen dLen) (hfit : off + xs.length ≤ zs.length) (hb : Below C w0 w) (hC : C ≤ g)
    (h : ∀ w', Blk w' g t (u32s (zs.take off ++ (xs ++ zs.drop (off + xs.length)))) → Below C w0 w' → wpList P ops Q rest (a.put o.dst (goInt (u32s xs).length)) w') :
    wpList P ops Q (o :: rest) a w := by
  refine wpList_copy_splice hgd d s dT sT ho elem hu hsz _ _ _ _ _ _ hd hs g off (u32s zs) t hg (u32s xs) (by rw [u32s_length]; exact hn) (fun h0 => ⟨rfl, ?_⟩) (by rw [u32s_length, u32s_length]; exact hfit) (one_u32s xs) C w0 hb hC (fun w' h1 h2 => h w' ?_ h2)
  · obtain ⟨b, o2, e, _, hc⟩ := hr (by intro e; rw [e] at h0; simp at h0)
    exact ⟨_, e, fun j v hv => by rw [show (⟨b, o2, none⟩ : Addr).add j = ⟨b, o2 + j, none⟩ by unfold Addr.add; split <;> simp_all]; exact hc j v hv⟩
  · have h9 := h1.out
    have e : splice (u32s zs) off (u32s xs) = u32s (zs.take off ++ (xs ++ zs.drop (off + xs.length))) := by
      simp [splice, u32s]
    rw [e] at h9
    exact h9
theorem copy_all (n : Nat) (xs : List Nat) (h : xs.length = n) : (List.replicate n 0).take 0 ++ (xs ++ (List.replicate n 0).drop (0 + xs.length)) = xs := by subst h; simp

/-! A row of which the first k are turned. -/
def half (f : Nat → Nat) (xs : List Nat) (k : Nat) : List Nat := (xs.take k).map f ++ xs.drop k
theorem half_length (f : Nat → Nat) (xs : List Nat) (k : Nat) : (half f xs k).length = xs.length := by unfold half; simp; omega
theorem half_zero (f : Nat → Nat) (xs : List Nat) : half f xs 0 = xs := by simp [half]
theorem half_all (f : Nat → Nat) (xs : List Nat) : half f xs xs.length = xs.map f := by simp [half]
theorem half_at {f : Nat → Nat} {xs : List Nat} {k : Nat} (h : k < xs.length) : (half f xs k)[k]'(by rw [half_length]; exact h) = xs[k] := by
  unfold half
  rw [List.getElem_append_right (by simp; omega)]
  simp [Nat.min_eq_left (Nat.le_of_lt h)]
theorem half_set {f : Nat → Nat} {xs : List Nat} {k : Nat} (h : k < xs.length) : (half f xs k).set k (f xs[k]) = half f xs (k + 1) := by
  unfold half
  have h0 : k - ((xs.take k).map f).length = 0 := by simp; omega
  rw [List.set_append_right _ _ (by simp; omega), h0, List.drop_eq_getElem_cons h, List.set_cons_zero, List.take_succ_eq_append_getElem h, List.map_append, List.append_assoc]
  rfl
/-! A row of noughts of which the first k are laid. -/
def fill (g : Nat → Nat) (n k : Nat) : List Nat := (List.range k).map g ++ List.replicate (n - k) 0
theorem fill_length {g : Nat → Nat} {n k : Nat} (h : k ≤ n) : (fill g n k).length = n := by unfold fill; simp; omega
theorem fill_zero (g : Nat → Nat) (n : Nat) : fill g n 0 = List.replicate n 0 := by simp [fill]
theorem fill_all (g : Nat → Nat) (n : Nat) : fill g n n = (List.range n).map g := by simp [fill]
theorem fill_set {g : Nat → Nat} {n k : Nat} (h : k < n) : (fill g n k).set k (g k) = fill g n (k + 1) := by
  unfold fill
  obtain ⟨m, hm⟩ : ∃ m, n - k = m + 1 := ⟨n - k - 1, by omega⟩
  rw [List.set_append_right _ _ (by simp), List.range_succ, List.map_append, hm, show n - (k + 1) = m by omega]
  simp [List.replicate_succ]
theorem fill_getD (g : Nat → Nat) (n i : Nat) : ((List.range n).map g).getD i 0 = if i < n then g i else 0 := by
  simp only [List.getD_eq_getElem?_getD, List.getElem?_map]
  by_cases h : i < n <;> simp [h]
theorem fill_cell {w : World} {b : Nat} {t : TypeId} {g : Nat → Nat} {n k : Nat} (h : Blk w b t (u32s (fill g n k))) (hk : k < n) : w.cell? ⟨b, k, none⟩ = some (.int .u32 0) := by
  rw [h.cell]
  simp [u32s, fill]
  rw [List.getElem?_append_right (by simp)]
  simp [List.getElem?_replicate]
  omega
theorem u32s_getD {xs : List Nat} {k : Nat} (h : k < xs.length) : (u32s xs)[k]? = some (.int .u32 ((xs.getD k 0 : Nat) : Int)) := by
  rw [u32s_at h, List.getD_eq_getElem?_getD, List.getElem?_eq_getElem h]; rfl
theorem bz {n : Nat} (h : 0 < n) : ((n : Int) == 0) = false := by rw [beq_eq_false_iff_ne]; omega
theorem w64 {n : Nat} (h : n < 18446744073709551616) : IntKind.u64.wrap (n : Int) = n := by rw [IntKind.wrap_u64]; omega
theorem w32 {n : Nat} (h : n < 4294967296) : IntKind.u32.wrap (n : Int) = n := by rw [IntKind.wrap_u32]; omega
theorem tmodN (a b : Nat) : (a : Int).tmod (b : Int) = ((a % b : Nat) : Int) := by rw [Int.tmod_eq_emod_of_nonneg (by omega)]; exact (Int.natCast_emod _ _).symm
theorem mod_dvd (a p : Nat) : (p : Int) ∣ ((a % p : Nat) : Int) - (a : Int) := by
  have h := Nat.div_add_mod a p
  exact ⟨-((a / p : Nat) : Int), by
    have h2 : ((p * (a / p) + a % p : Nat) : Int) = (a : Nat) := by rw [h]
    rw [Int.natCast_add, Int.natCast_mul] at h2
    rw [Int.mul_neg]; omega⟩
theorem Dr.cellOf {w w' : World} (h : Dr w w') {p : Addr} {v : Option Value} (hc : w.cell? p = v) : w'.cell? p = v := by
  obtain ⟨n, rfl⟩ := h
  exact hc
end
end Go.Proofs.YtddhhndnkjajmaaDoor
