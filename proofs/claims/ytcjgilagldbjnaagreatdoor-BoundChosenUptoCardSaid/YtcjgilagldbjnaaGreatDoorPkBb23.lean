/- The contracts of takeRow and guess. The contract of guess. A digit of long division: plain mathematics. The contract of longQuotient. The contract of twoByOne, for every size. -/
import Derived.Test.YtcjgilagldbjnaaGreatDoorPkBb15
import Derived.Test.YtcjgilagldbjnaaGreatDoorPkBb17
import Derived.WalkMore
import Derived.Test.YtcjgilagldbjnaaGreatDoorPkBb19
import Derived.Deep.RegionHeld3
import Derived.Test.YtcjgilagldbjnaaGreatDoorPkBb22
namespace Go.Proofs.YtcjgilagldbjnaaGreatDoor
section
open Go.RowKit
theorem guess_stop {W top next third v1 v2 d r : Nat} (hd : d * v1 + r = top * W + next) (h : d * v2 ≤ r * W + third) : d * (v1 * W + v2) ≤ (top * W + next) * W + third := by
 rw [← hd, Nat.mul_add, Nat.add_mul, ← Nat.mul_assoc]; omega
theorem guess_more {W top next third v1 v2 d r : Nat} (hd : d * v1 + r = top * W + next) (h : r * W + third < d * v2) : (top * W + next) * W + third < d * (v1 * W + v2) := by
 rw [← hd, Nat.mul_add, Nat.add_mul, ← Nat.mul_assoc]; omega
def digit3 (W top next third v1 v2 : Nat) : Nat := min (W - 1) (((top * W + next) * W + third) / (v1 * W + v2))
theorem digit3_eq {W top next third v1 v2 d : Nat} (hD : 0 < v1 * W + v2) (h1 : d ≤ W - 1) (h2 : digit3 W top next third v1 v2 ≤ d) (h3 : d * (v1 * W + v2) ≤ (top * W + next) * W + third) : d = digit3 W top next third v1 v2 := by
 have h4 : d ≤ ((top * W + next) * W + third) / (v1 * W + v2) := (Nat.le_div_iff_mul_le hD).2 h3
 unfold digit3 at *
 omega
theorem digit3_lt {W top next third v1 v2 d : Nat} (hD : 0 < v1 * W + v2) (h3 : (top * W + next) * W + third < d * (v1 * W + v2)) : digit3 W top next third v1 v2 ≤ d - 1 := by
 have h4 : ((top * W + next) * W + third) / (v1 * W + v2) < d := (Nat.div_lt_iff_lt_mul hD).2 h3
 unfold digit3
 omega
theorem far_rest {W d v2 r third : Nat} (hd : d < W) (hv : v2 < W) (hr : W ≤ r) : d * v2 ≤ r * W + third := by
 have h1 : d * v2 ≤ W * W := Nat.mul_le_mul (by omega) (by omega)
 have h2 : W * W ≤ r * W := Nat.mul_le_mul_right _ hr
 omega
end
section
open Go.RowKit
def Seek (W top next third v1 v2 d r : Nat) : Prop := d * v1 + r = top * W + next ∧ digit3 W top next third v1 v2 ≤ d ∧ d ≤ W - 1 ∧ r < W
theorem Seek.out {W top next third v1 v2 d r : Nat} (h : Seek W top next third v1 v2 d r) (hD : 0 < v1 * W + v2) (hs : d * v2 ≤ r * W + third) : d = digit3 W top next third v1 v2 :=
 digit3_eq hD h.2.2.1 h.2.1 (guess_stop h.1 hs)
theorem Seek.pos {W top next third v1 v2 d r : Nat} (_h : Seek W top next third v1 v2 d r) (hm : r * W + third < d * v2) : 0 < d := by
 rcases Nat.eq_zero_or_pos d with h0 | h0
 ·subst h0; simp at hm
 ·exact h0
theorem Seek.less {W top next third v1 v2 d r : Nat} (h : Seek W top next third v1 v2 d r) (hD : 0 < v1 * W + v2) (hm : r * W + third < d * v2) : (d - 1) * v1 + (r + v1) = top * W + next ∧ digit3 W top next third v1 v2 ≤ d - 1 ∧ d - 1 ≤ W - 1 := by
 have h0 := h.pos hm
 obtain ⟨k, rfl⟩ : ∃ k, d = k + 1 := ⟨d - 1, by omega⟩
 have h1 := h.1
 rw [Nat.add_mul] at h1
 refine ⟨by simp only [Nat.add_sub_cancel]; omega, digit3_lt hD (guess_more h.1 hm), by have := h.2.2.1; omega⟩
theorem Seek.far {W top next third v1 v2 d r : Nat} (hD : 0 < v1 * W + v2) (hW : 0 < W) (hv : v2 < W) (h1 : d * v1 + r = top * W + next) (h2 : digit3 W top next third v1 v2 ≤ d) (h3 : d ≤ W - 1) (hr : W ≤ r) : d = digit3 W top next third v1 v2 :=
 digit3_eq hD h3 h2 (guess_stop h1 (far_rest (by omega) hv hr))
end
section
open Go.RowKit
theorem digit3_near {W N3 v1 v2 P t s U V : Nat} (hP : 0 < P) (hV : V = (v1 * W + v2) * P + t) (ht : t < P) (hU : U = N3 * P + s) (hs : s < P) (hD : W ≤ v1 * W + v2) (hW : 0 < W) (hUV : U < W * V) :
  min (W - 1) (N3 / (v1 * W + v2)) = U / V ∨ min (W - 1) (N3 / (v1 * W + v2)) = U / V + 1 := by
 obtain ⟨D, hDe⟩ : ∃ D, D = v1 * W + v2 := ⟨_, rfl⟩
 rw [← hDe] at hV hD ⊢
 have hDp : 0 < D := by omega
 have hVp : 0 < V := by
  have : 1 * 1 ≤ D * P := Nat.mul_le_mul hDp hP
  omega
 obtain ⟨q, hq⟩ : ∃ q, q = U / V := ⟨_, rfl⟩
 have hqV : q * V ≤ U := by rw [hq]; exact Nat.div_mul_le_self _ _
 have hqW : q < W := by rw [hq]; exact (Nat.div_lt_iff_lt_mul hVp).2 hUV
 have h1 : q ≤ N3 / D := by
  rw [Nat.le_div_iff_mul_le hDp]
  have a1 : q * (D * P) ≤ q * V := Nat.mul_le_mul_left _ (by omega)
  have a2 : q * D * P < (N3 + 1) * P := by rw [Nat.mul_assoc, Nat.add_mul]; omega
  have := Nat.lt_of_mul_lt_mul_right a2
  omega
 rw [← hq]
 obtain ⟨d, hd⟩ : ∃ d, d = min (W - 1) (N3 / D) := ⟨_, rfl⟩
 rw [← hd]
 have h2 : d ≤ W - 1 := by omega
 have h3 : d * D ≤ N3 := by
  have : d ≤ N3 / D := by omega
  exact (Nat.le_div_iff_mul_le hDp).1 this
 have h4 : q ≤ d := by omega
 have h5 : d ≤ q + 1 := by
  rcases Nat.eq_zero_or_pos d with h0 | h0
  ·omega
  ·obtain ⟨e, he⟩ : ∃ e, d = e + 1 := ⟨d - 1, by omega⟩
   have : e ≤ q := by
    rw [hq, Nat.le_div_iff_mul_le hVp, hV, Nat.mul_add]
    have a1 : e * t ≤ D * P := Nat.mul_le_mul (by omega) (by omega)
    have a2 : d * D * P ≤ N3 * P := Nat.mul_le_mul_right _ h3
    rw [he, Nat.add_mul, Nat.add_mul, Nat.one_mul, Nat.mul_assoc] at a2
    omega
   omega
 omega
theorem val_top2 (b : Nat) (xs : List Nat) (m : Nat) (h : xs.length = m + 2) : val b xs = val b (xs.take m) + b ^ m * (xs[m] + b * xs[m + 1]) := by
 rw [val_take_drop b xs m (by omega), List.drop_eq_getElem_cons (show m < xs.length by omega), List.drop_eq_getElem_cons (show m + 1 < xs.length by omega), show xs.drop (m + 1 + 1) = [] from List.drop_eq_nil_of_le (by omega)]
 simp [val]
theorem val_top3 (b : Nat) (xs : List Nat) (m : Nat) (h : xs.length = m + 3) : val b xs = val b (xs.take m) + b ^ m * (xs[m] + b * (xs[m + 1] + b * xs[m + 2])) := by
 rw [val_take_drop b xs m (by omega), List.drop_eq_getElem_cons (show m < xs.length by omega), List.drop_eq_getElem_cons (show m + 1 < xs.length by omega), List.drop_eq_getElem_cons (show m + 1 + 1 < xs.length by omega), show xs.drop (m + 1 + 1 + 1) = [] from List.drop_eq_nil_of_le (by omega)]
 simp [val]
theorem val_zero_of {b : Nat} {xs : List Nat} (h : ∀ j (hj : j < xs.length), xs[j] = 0) : val b xs = 0 := by
 induction xs with
 | nil => rfl
 | cons x xs ih =>
  have h0 := h 0 (by simp)
  have h1 := ih (fun j hj => by
   have h2 := h (j + 1) (by simp only [List.length_cons]; omega)
   simp only [List.getElem_cons_succ] at h2
   exact h2)
  simp only [val, h1]
  simp at h0
  omega
structure Longhand (W N : Nat) (vs : List Nat) (M k : Nat) (L qs : List Nat) : Prop where
 le : k ≤ M - vs.length
 len : L.length = M
 dig : Dig W L
 qlen : qs.length = M - vs.length
 qdig : Dig W qs
 sum : val W qs * val W vs + val W L = N
 qzero : ∀ j (h : j < qs.length), j < k → qs[j] = 0
 zero : ∀ j (h : j < L.length), k + vs.length ≤ j → L[j] = 0
 rest : val W ((L.drop k).take vs.length) < val W vs
theorem Longhand.start {W : Nat} {vs us : List Nat} (hW : 0 < W) (hd : Dig W us) (hr : val W (us.drop (us.length - vs.length)) < val W vs) : Longhand W (val W us) vs us.length (us.length - vs.length) us (List.replicate (us.length - vs.length) 0) := by
 refine ⟨Nat.le_refl _, rfl, hd, by simp, Dig.zeros_ hW _, by rw [val_zeros]; simp, fun j h _ => by simp, fun j h hj => by omega, ?_⟩
 rw [List.take_of_length_le (by rw [List.length_drop]; omega)]
 exact hr
theorem Longhand.end_ {W N M : Nat} {vs L qs : List Nat} (h : Longhand W N vs M 0 L qs) : val W qs = N / val W vs ∧ val W L = N % val W vs := by
 have h1 := h.rest
 have h2 := h.sum
 rw [List.drop_zero] at h1
 have h3 : val W L = val W (L.take vs.length) := by
  by_cases hl : L.length ≤ vs.length
  ·rw [List.take_of_length_le hl]
  ·have h4 := val_take_drop W L vs.length (by omega)
   have h5 : val W (L.drop vs.length) = 0 := val_zero_of (fun j hj => by
    rw [List.length_drop] at hj
    rw [List.getElem_drop]
    exact h.zero _ (by omega) (by omega))
   rw [h5, Nat.mul_zero] at h4
   omega
 rw [← h3] at h1
 have hp : 0 < val W vs := by omega
 rw [Nat.mul_comm] at h2
 refine ⟨?_, ?_⟩
 ·rw [← h2, Nat.mul_add_div hp, Nat.div_eq_of_lt h1, Nat.add_zero]
 ·rw [← h2, Nat.mul_add_mod, Nat.mod_eq_of_lt h1]
theorem Longhand.window {W N M k m : Nat} {vs L qs : List Nat} (h : Longhand W N vs M (k + 1) L qs) (hn : vs.length = m + 2) (hv1 : 0 < vs[m + 1]) (hd : Dig W vs) (hW : 1 < W) (hl : k + vs.length < L.length) :
  (L[k + vs.length] ≤ vs[m + 1]) ∧
  ∃ U, U = val W ((L.drop k).take vs.length) + W ^ vs.length * L[k + vs.length] ∧ U < W * val W vs ∧ (digit3 W L[k + vs.length] L[k + m + 1] L[k + m] vs[m + 1] vs[m] = U / val W vs ∨ digit3 W L[k + vs.length] L[k + m + 1] L[k + m] vs[m + 1] vs[m] = U / val W vs + 1) := by
 have hr := h.rest
 have hX : ((L.drop k).take (vs.length + 1)).length = m + 3 := by rw [List.length_take, List.length_drop]; omega
 have e0 := val_top3 W ((L.drop k).take (vs.length + 1)) m hX
 have g0 : ((L.drop k).take (vs.length + 1))[m] = L[k + m] := by rw [List.getElem_take, List.getElem_drop]
 have g1 : ((L.drop k).take (vs.length + 1))[m + 1] = L[k + m + 1] := by rw [List.getElem_take, List.getElem_drop]; rfl
 have g2 : ((L.drop k).take (vs.length + 1))[m + 2] = L[k + vs.length] := by rw [List.getElem_take, List.getElem_drop]; congr 1; omega
 rw [g0, g1, g2] at e0
 have e1 : val W ((L.drop k).take (vs.length + 1)) = val W ((L.drop k).take vs.length) + W ^ vs.length * L[k + vs.length] := by
  have := val_take_succ W (L.drop k) vs.length (by rw [List.length_drop]; omega)
  rw [List.getElem_drop] at this
  exact this
 have e2 : val W ((L.drop k).take (vs.length + 1)) = L[k] + W * val W ((L.drop (k + 1)).take vs.length) := by
  rw [List.drop_eq_getElem_cons (show k < L.length by omega), List.take_succ_cons]; rfl
 have e3 := val_top2 W vs m hn
 have b0 := h.dig.at_ k (by omega)
 have b1 : val W (((L.drop k).take (vs.length + 1)).take m) < W ^ m := by
  have := val_lt W _ (((h.dig.drop_ k).take_ (vs.length + 1)).take_ m)
  rw [List.length_take, hX, Nat.min_eq_left (by omega)] at this
  exact this
 have b2 : val W (vs.take m) < W ^ m := by
  have := val_lt W _ (hd.take_ m)
  rw [List.length_take, hn, Nat.min_eq_left (by omega)] at this
  exact this
 have hUV : L[k] + W * val W ((L.drop (k + 1)).take vs.length) < W * val W vs := by
  have := Nat.mul_le_mul_left W hr
  rw [Nat.mul_succ] at this
  omega
 have hD : W ≤ vs[m + 1] * W + vs[m] := by
  have := Nat.mul_le_mul_right W hv1
  omega
 have htop : L[k + vs.length] ≤ vs[m + 1] := by
  rcases Nat.lt_or_ge vs[m + 1] L[k + vs.length] with hc | hc
  ·exfalso
   have a1 : W ^ vs.length * (vs[m + 1] + 1) ≤ W ^ vs.length * L[k + vs.length] := Nat.mul_le_mul_left _ hc
   have a2 : val W vs < W ^ m * (W * (vs[m + 1] + 1)) := by
    rw [e3]
    have c1 := hd.at_ m (by omega)
    have c2 : W ^ m * (vs[m] + W * vs[m + 1] + 1) ≤ W ^ m * (W * (vs[m + 1] + 1)) := Nat.mul_le_mul_left _ (by rw [Nat.mul_add]; omega)
    rw [Nat.mul_add (W ^ m) _ 1] at c2
    omega
   have a3 : W * (W ^ m * (W * (vs[m + 1] + 1))) = W ^ vs.length * (vs[m + 1] + 1) := by
    rw [show W ^ vs.length = W ^ m * W * W from by rw [hn, Nat.pow_succ, Nat.pow_succ]]
    rw [Nat.mul_comm W (W ^ m * _), Nat.mul_assoc, Nat.mul_assoc, Nat.mul_assoc, Nat.mul_comm (vs[m + 1] + 1) W]
    exact (Nat.mul_assoc _ _ _).symm
   have a4 : W * val W vs ≤ W * (W ^ m * (W * (vs[m + 1] + 1))) := Nat.mul_le_mul_left _ (Nat.le_of_lt a2)
   omega
  ·exact hc
 refine ⟨htop, val W ((L.drop k).take (vs.length + 1)), e1, by rw [e2]; exact hUV, ?_⟩
 have e4 : val W ((L.drop k).take (vs.length + 1)) = ((L[k + vs.length] * W + L[k + m + 1]) * W + L[k + m]) * W ^ m + val W (((L.drop k).take (vs.length + 1)).take m) := by
  rw [e0, Nat.add_comm]
  congr 1
  rw [Nat.mul_comm (W ^ m)]
  congr 1
  rw [Nat.add_comm (L[k + m])]
  congr 1
  rw [Nat.mul_comm W]
  congr 1
  rw [Nat.add_comm, Nat.mul_comm W]
 have e5 : val W vs = (vs[m + 1] * W + vs[m]) * W ^ m + val W (vs.take m) := by
  rw [e3, Nat.add_comm, Nat.mul_comm (W ^ m), Nat.add_comm vs[m], Nat.mul_comm W]
 exact digit3_near (Nat.pow_pos (by omega)) e5 b2 e4 b1 hD (by omega) (by rw [e2]; exact hUV)
def lay (L : List Nat) (k : Nat) (zs : List Nat) : List Nat := L.take k ++ zs ++ 0 :: L.drop (k + zs.length + 1)
theorem lay_length {L : List Nat} {k : Nat} {zs : List Nat} (h : k + zs.length < L.length) : (lay L k zs).length = L.length := by
 unfold lay
 simp only [List.length_append, List.length_take, List.length_cons, List.length_drop]; omega
theorem lay_dig {b : Nat} {L : List Nat} {k : Nat} {zs : List Nat} (hb : 0 < b) (h : Dig b L) (hz : Dig b zs) : Dig b (lay L k zs) := ((h.take_ _).append_ hz).append_ (Dig.cons_ hb (h.drop_ _))
theorem lay_window {L : List Nat} {k : Nat} {zs : List Nat} (h : k + zs.length < L.length) : ((lay L k zs).drop k).take zs.length = zs := by
 have h1 : (L.take k).length = k := by rw [List.length_take]; omega
 unfold lay
 rw [List.append_assoc, List.drop_left' h1, List.take_left' rfl]
theorem lay_zero {L : List Nat} {k : Nat} {zs : List Nat} (h : k + zs.length < L.length) (hz : ∀ j (hj : j < L.length), k + 1 + zs.length ≤ j → L[j] = 0) : ∀ j (hj : j < (lay L k zs).length), k + zs.length ≤ j → (lay L k zs)[j] = 0 := by
 intro j hj hk
 have h1 : (L.take k ++ zs).length = k + zs.length := by rw [List.length_append, List.length_take]; omega
 unfold lay at hj ⊢
 rw [List.getElem_append_right (by omega)]
 rw [List.length_append, h1] at hj
 simp only [List.length_cons, List.length_drop] at hj
 obtain ⟨i, hi⟩ : ∃ i, i = j - (L.take k ++ zs).length := ⟨_, rfl⟩
 have : ∀ (i : Nat) (hi : i < (0 :: L.drop (k + zs.length + 1)).length), (0 :: L.drop (k + zs.length + 1))[i] = 0 := by
  intro i hi
  cases i with
  | zero => rfl
  | succ i =>
   rw [List.getElem_cons_succ, List.getElem_drop]
   simp only [List.length_cons, List.length_drop] at hi
   exact hz _ (by omega) (by omega)
 exact this _ _
theorem lay_val (b : Nat) {L : List Nat} {k : Nat} {zs : List Nat} (h : k + zs.length < L.length) : val b (lay L k zs) + b ^ k * (val b ((L.drop k).take zs.length) + b ^ zs.length * L[k + zs.length]) = val b L + b ^ k * val b zs := by
 have h1 : (L.take k).length = k := by rw [List.length_take]; omega
 have e1 := val_take_drop b L k (by omega)
 have e2 := val_take_drop b (L.drop k) zs.length (by rw [List.length_drop]; omega)
 rw [List.drop_drop, List.drop_eq_getElem_cons h] at e2
 have e3 : val b (L[k + zs.length] :: L.drop (k + zs.length + 1)) = L[k + zs.length] + b * val b (L.drop (k + zs.length + 1)) := rfl
 rw [e3] at e2
 have e4 : val b (lay L k zs) = val b (L.take k) + b ^ k * (val b zs + b ^ zs.length * (b * val b (L.drop (k + zs.length + 1)))) := by
  unfold lay
  rw [List.append_assoc, val_append, val_append, h1]
  simp [val]
 rw [e4, e1, e2]
 simp only [Nat.mul_add]
 omega
theorem Longhand.next {W N M k U : Nat} {vs L qs zs : List Nat} (h : Longhand W N vs M (k + 1) L qs) (hl : k + vs.length < L.length) (hz : zs.length = vs.length) (hzd : Dig W zs) (hU : U = val W ((L.drop k).take vs.length) + W ^ vs.length * L[k + vs.length])
  (hzv : val W zs = U % val W vs) (hq : U / val W vs < W) (hV : 0 < val W vs) (hW : 0 < W) : Longhand W N vs M k (lay L k zs) (qs.set k (U / val W vs)) := by
 have hl' : k + zs.length < L.length := by omega
 have h1 := h.le
 have h2 := h.qlen
 have hkq : k < qs.length := by omega
 have e1 := lay_val W hl'
 have e2 := val_set W qs k (U / val W vs) hkq
 rw [h.qzero k hkq (by omega), Nat.mul_zero, Nat.add_zero] at e2
 have e3 := h.sum
 have e4 := Nat.div_add_mod U (val W vs)
 have e5 : val W (lay L k zs) + W ^ k * U = val W L + W ^ k * (U % val W vs) := by
  rw [hzv] at e1
  rw [← e1, hU]
  congr 2
  simp only [hz]
 refine ⟨by omega, (lay_length hl').trans h.len, lay_dig hW h.dig hzd, by rw [List.length_set]; exact h2, h.qdig.set_ k _ hq, ?_, ?_, ?_, ?_⟩
 ·rw [e2, Nat.add_mul]
  have e6 : W ^ k * U = W ^ k * (U / val W vs) * val W vs + W ^ k * (U % val W vs) := by
   rw [Nat.mul_assoc, ← Nat.mul_add, Nat.mul_comm (U / val W vs), e4]
  omega
 ·intro j hj hjk
  rw [List.getElem_set]
  rw [if_neg (by omega)]
  rw [List.length_set] at hj
  exact h.qzero j hj (by omega)
 ·intro j hj hjk
  exact lay_zero hl' (fun j hj hjk => h.zero j hj (by omega)) j hj (by omega)
 ·have := lay_window hl'
  rw [hz] at this
  rw [this, hzv]
  exact Nat.mod_lt _ hV
end
section
open Go.RowKit
end
section
open Go.RowKit
end
end Go.Proofs.YtcjgilagldbjnaaGreatDoor
