/- The list of divisors that both Divisors make ahead of their sorting. No conditions. Appending to a row of one's own, and what the old row still holds: for a slice of it that was cut off earlier. No conditions beyond the law's. -/
import Derived.Test.YtcopkeccogpkmaaDoorPkPp3
import Derived.Test.YtcopkeccogpkmaaDoorPkPp0
import Derived.Maps.AppendAt
import Derived.OwnWalk
namespace Go.Proofs.YtcopkeccogpkmaaDoor
section
open Go.RowKit

/-- A row, and behind it the row times p, p^2 .. p^k. -/
def divRow (out : List Nat) (p : Nat) : Nat → List Nat
  | 0 => out
  | k + 1 => divRow out p k ++ out.map (· * p ^ (k + 1))
/-- The divisors that a list of factors makes, unsorted. -/
def divL : List Nat → List (Nat × Nat) → List Nat
  | out, [] => out
  | out, (p, t) :: l => divL (divRow out p t) l

theorem divRow_length (out : List Nat) (p k : Nat) : (divRow out p k).length = out.length * (k + 1) := by
  induction k with
  | zero => simp [divRow]
  | succ k ih => rw [divRow, List.length_append, ih, List.length_map, Nat.mul_succ out.length (k + 1)]
theorem divRow_mem {out : List Nat} {p k x : Nat} (h : x ∈ divRow out p k) : ∃ d ∈ out, ∃ j, j ≤ k ∧ x = d * p ^ j := by
  induction k with
  | zero => exact ⟨x, h, 0, Nat.le_refl _, by simp⟩
  | succ k ih =>
    rw [divRow, List.mem_append] at h
    rcases h with h | h
    · obtain ⟨d, hd, j, hj, e⟩ := ih h
      exact ⟨d, hd, j, by omega, e⟩
    · obtain ⟨d, hd, e⟩ := List.mem_map.1 h
      exact ⟨d, hd, k + 1, Nat.le_refl _, e.symm⟩
theorem succ_le_pow {p : Nat} (hp : 2 ≤ p) (t : Nat) : t + 1 ≤ p ^ t := by
  have a1 : t < 2 ^ t := Nat.lt_two_pow_self
  have a2 : 2 ^ t ≤ p ^ t := Nat.pow_le_pow_left hp t
  omega

/-- What holds of the row ahead of a factor's turn, m being what is left of n. -/
def DivOk (n m : Nat) (out : List Nat) : Prop := out.length * m ≤ n ∧ ∀ d ∈ out, d * m ≤ n
theorem DivOk.start (n : Nat) : DivOk n n [1] := ⟨by simp, fun d hd => by simp at hd; subst hd; simp⟩
theorem DivOk.part {n m m2 p t k : Nat} {out : List Nat} (h : DivOk n m out) (hm : m = p ^ t * m2) (hp : 2 ≤ p) (hk : k ≤ t) : (divRow out p k).length * m2 ≤ n ∧ ∀ d ∈ divRow out p k, d * m2 ≤ n := by
  obtain ⟨h1, h2⟩ := h
  have e : p ^ k ≤ p ^ t := Nat.pow_le_pow_right (by omega) hk
  refine ⟨?_, fun x hx => ?_⟩
  · have a1 := succ_le_pow hp k
    have a2 : out.length * (k + 1) ≤ out.length * p ^ t := Nat.mul_le_mul_left _ (by omega)
    have a3 : out.length * (k + 1) * m2 ≤ out.length * p ^ t * m2 := Nat.mul_le_mul_right _ a2
    rw [hm, ← Nat.mul_assoc] at h1
    rw [divRow_length]; omega
  · obtain ⟨d, hd, j, hj, rfl⟩ := divRow_mem hx
    have a0 := h2 d hd
    have a1 : p ^ j ≤ p ^ t := Nat.pow_le_pow_right (by omega) (by omega)
    have a2 : d * p ^ j ≤ d * p ^ t := Nat.mul_le_mul_left _ a1
    have a3 : d * p ^ j * m2 ≤ d * p ^ t * m2 := Nat.mul_le_mul_right _ a2
    rw [hm, ← Nat.mul_assoc] at a0
    omega
theorem DivOk.next {n m m2 p t : Nat} {out : List Nat} (h : DivOk n m out) (hm : m = p ^ t * m2) (hp : 2 ≤ p) : DivOk n m2 (divRow out p t) := h.part hm hp (Nat.le_refl t)
end
section
open Go.RowKit

/-- Appending to a row of one's own that has a block: the block's old cells stay. -/
theorem app_keep {P : Program} (w : World) (base : Nat) (t ty e : TypeId) (i : TypeInfo) (z : Value) (size bytes : Nat) (ht : P.underlying t = some (.slice e)) (hi : P.info? e = some i) (hz : i.zero = some z)
    (hsize : i.size = size) (hby : i.bytes = bytes) (hzs : z.cells.size = size) (hs0 : 0 < size) (g n cap : Nat) (xs : List Value) (hown : w.ownsRow base e size (.slice (some ⟨g, 0, none⟩) n cap) n xs)
    (a : Addr) (m c : Nat) (news : List Value) (hl : news.length = m * size) (hnews : ∀ j u, news[j]? = some u → w.cell? (a.add j) = some u) (h1 : ∀ u ∈ news, u.oneCell' = true)
    (h63 : n + m ≤ maxLen) (hbytes : (n + m) * bytes ≤ 140737488355328) (hbase : base ≤ w.heap.size) :
    ∃ v' w', (Builtin.append_ #[t, t] ty #[.slice (some ⟨g, 0, none⟩) n cap, .slice (some a) m c]).run P w = .ok v' w' ∧ w'.ownsRow base e size v' (n + m) (xs ++ news) ∧ w.grownBy w' (some g) ∧
      ∀ k u, xs[k]? = some u → w'.cell? ⟨g, k, none⟩ = some u := by
  obtain ⟨v', w', hrun, ho, hg, _, _⟩ := run_append_own_at (P := P) w base t ty e i z size bytes ht hi hz hsize hby hzs hs0 _ n xs hown a m c news hl hnews h1 h63 hbytes hbase
  refine ⟨v', w', hrun, ho, hg, fun k u hu => ?_⟩
  subst hsize
  have hlx := hown.1
  obtain ⟨_, h | ⟨g2, cap2, cur, hv, hbg, hgh, hnc, hcm, hcs, htake⟩⟩ := hown
  · cases h.1
  injection hv with hv1 hv2 hv3
  injection hv1 with hv4
  injection hv4 with hv5
  subst hv5 hv3
  have hb : Blk w g e cur.toList := by simpa [Blk] using hgh
  have hku : cur.toList[k]? = some u := by
    rw [← htake, List.getElem?_take] at hu
    split at hu
    · exact hu
    · cases hu
  by_cases hroom : n + m ≤ cap
  · have hfit : n * i.size + news.length ≤ cur.size := by rw [hl, hcs, ← Nat.add_mul]; exact Nat.mul_le_mul_right _ hroom
    have hr := run_append_room (P := P) w t ty e i ht hi g n cap cur hgh a m c news hl hnews h1 hroom hfit
    rw [hrun] at hr
    injection hr with e1 e2
    subst e1
    have h9 := ho.cells (g := g) rfl k u (by rw [List.getElem?_append_left (by
      rcases Nat.lt_or_ge k xs.length with h | h
      · exact h
      · rw [List.getElem?_eq_none h] at hu; cases hu)]; exact hu)
    have ha : (⟨g, 0, none⟩ : Addr).add k = ⟨g, 0 + k, none⟩ := by unfold Addr.add; split <;> simp_all
    rw [ha, Nat.zero_add] at h9
    exact h9
  · subst hby
    have holds : ∀ j u, xs[j]? = some u → w.cell? ((⟨g, 0, none⟩ : Addr).add j) = some u := fun j u hj => by
      have ha : (⟨g, 0, none⟩ : Addr).add j = ⟨g, 0 + j, none⟩ := by unfold Addr.add; split <;> simp_all
      rw [ha, Nat.zero_add, hb.cell]
      rw [← htake, List.getElem?_take] at hj
      split at hj
      · exact hj
      · cases hj
    have hsmall : n + m ≤ 9223372036854775807 := by simp only [maxLen] at h63; omega
    have hr := run_append_grow (P := P) w t ty e i z ht hi hz ⟨g, 0, none⟩ n cap xs hlx holds a m c news hl hnews (by omega) (by omega) (growslice_fits (by omega) hbytes)
    rw [hrun] at hr
    injection hr with e1 e2
    rw [e2]
    have hb2 := (hb.drew).heapAlloc (.cells (xs.toArray ++ news.toArray ++ Builtin.zeroCells z.cells (grownCap w (n + m) cap e - (n + m))) e)
    rw [hb2.cell]
    exact hku
end
end Go.Proofs.YtcopkeccogpkmaaDoor
