/- A digit of long division: plain mathematics. The contract of longQuotient. The contract of twoByOne, for every size. The numbers behind a division in blocks. -/
import Derived.Test.YtbcphifjcaobfaaGreatDoorPkRp11
import Derived.Test.YtbcphifjcaobfaaGreatDoorPkRp6
import Derived.Deep.RegionHeld3
import Derived.Laws.CopyOwn
namespace Go.Proofs.YtbcphifjcaobfaaGreatDoor
section
open Go.RowKit
theorem digit3_near {W N3 v1 v2 P t s U V : Nat} (hP : 0 < P) (hV : V = (v1 * W + v2) * P + t) (ht : t < P) (hU : U = N3 * P + s) (hs : s < P) (hD : W ≤ v1 * W + v2) (hW : 0 < W) (hUV : U < W * V) :
  min (W - 1) (N3 / (v1 * W + v2)) = U / V ∨ min (W - 1) (N3 / (v1 * W + v2)) = U / V + 1 := by
 obtain ⟨D, hDe⟩ : ∃ D, D = v1 * W + v2 := ⟨_, rfl⟩
 rw [← hDe] at hV hD ⊢
 have hDp : 0 < D := by omega
 have hVp : 0 < V := by
  have : 1 * 1 ≤ D * P := Nat.mul_le_mul hDp hP
  omega
 obtain ⟨q, hq⟩ : ∃ q, q = U / V := ⟨_, rfl⟩
 have hqV : q * V ≤ U := by rw [hq]; exact Nat.div_mul_le_self _ _
 have hqW : q < W := by rw [hq]; exact (Nat.div_lt_iff_lt_mul hVp).2 hUV
 have h1 : q ≤ N3 / D := by
  rw [Nat.le_div_iff_mul_le hDp]
  have a1 : q * (D * P) ≤ q * V := Nat.mul_le_mul_left _ (by omega)
  have a2 : q * D * P < (N3 + 1) * P := by rw [Nat.mul_assoc, Nat.add_mul]; omega
  have := Nat.lt_of_mul_lt_mul_right a2
  omega
 rw [← hq]
 obtain ⟨d, hd⟩ : ∃ d, d = min (W - 1) (N3 / D) := ⟨_, rfl⟩
 rw [← hd]
 have h2 : d ≤ W - 1 := by omega
 have h3 : d * D ≤ N3 := by
  have : d ≤ N3 / D := by omega
  exact (Nat.le_div_iff_mul_le hDp).1 this
 have h4 : q ≤ d := by omega
 have h5 : d ≤ q + 1 := by
  rcases Nat.eq_zero_or_pos d with h0 | h0
  ·omega
  ·obtain ⟨e, he⟩ : ∃ e, d = e + 1 := ⟨d - 1, by omega⟩
   have : e ≤ q := by
    rw [hq, Nat.le_div_iff_mul_le hVp, hV, Nat.mul_add]
    have a1 : e * t ≤ D * P := Nat.mul_le_mul (by omega) (by omega)
    have a2 : d * D * P ≤ N3 * P := Nat.mul_le_mul_right _ h3
    rw [he, Nat.add_mul, Nat.add_mul, Nat.one_mul, Nat.mul_assoc] at a2
    omega
   omega
 omega
theorem knuth_fix {B V S top lack zs d U : Nat} (hU : U = S + B * top) (hz : zs < B) (hV : 0 < V) (hVB : V < B) (e : zs + V * d = S + B * lack) (hd : d = U / V ∨ d = U / V + 1) :
  (¬ top < lack → d = U / V ∧ zs = U % V) ∧ (top < lack → d = U / V + 1 ∧ zs + V = U % V + B) := by
 have h1 := Nat.div_add_mod U V
 have h2 := Nat.mod_lt U hV
 generalize U / V = q at *
 generalize U % V = r at *
 rcases hd with rfl | rfl
 ·have key : zs + B * top = r + B * lack := by omega
  have h3 : top = lack := by
   rcases Nat.lt_trichotomy top lack with h | h | h
   ·have := Nat.mul_le_mul_left B h
    rw [Nat.mul_succ] at this; omega
   ·exact h
   ·have := Nat.mul_le_mul_left B h
    rw [Nat.mul_succ] at this; omega
  subst h3
  exact ⟨fun _ => ⟨rfl, by omega⟩, fun h => absurd h (Nat.lt_irrefl _)⟩
 ·have key : zs + V + B * top = r + B * lack := by rw [Nat.mul_add] at e; omega
  have h3 : lack = top + 1 := by
   rcases Nat.lt_trichotomy lack (top + 1) with h | h | h
   ·have := Nat.mul_le_mul_left B (show lack ≤ top by omega)
    omega
   ·exact h
   ·have := Nat.mul_le_mul_left B (show top + 2 ≤ lack by omega)
    rw [Nat.mul_add] at this; omega
  subst h3
  rw [Nat.mul_add] at key
  exact ⟨fun h => absurd (Nat.lt_succ_self _) h, fun _ => ⟨rfl, by omega⟩⟩
theorem val_top2 (b : Nat) (xs : List Nat) (m : Nat) (h : xs.length = m + 2) : val b xs = val b (xs.take m) + b ^ m * (xs[m] + b * xs[m + 1]) := by
 rw [val_take_drop b xs m (by omega), List.drop_eq_getElem_cons (show m < xs.length by omega), List.drop_eq_getElem_cons (show m + 1 < xs.length by omega), show xs.drop (m + 1 + 1) = [] from List.drop_eq_nil_of_le (by omega)]
 simp [val]
theorem val_top3 (b : Nat) (xs : List Nat) (m : Nat) (h : xs.length = m + 3) : val b xs = val b (xs.take m) + b ^ m * (xs[m] + b * (xs[m + 1] + b * xs[m + 2])) := by
 rw [val_take_drop b xs m (by omega), List.drop_eq_getElem_cons (show m < xs.length by omega), List.drop_eq_getElem_cons (show m + 1 < xs.length by omega), List.drop_eq_getElem_cons (show m + 1 + 1 < xs.length by omega), show xs.drop (m + 1 + 1 + 1) = [] from List.drop_eq_nil_of_le (by omega)]
 simp [val]
theorem val_zero_of {b : Nat} {xs : List Nat} (h : ∀ j (hj : j < xs.length), xs[j] = 0) : val b xs = 0 := by
 induction xs with
 | nil => rfl
 | cons x xs ih =>
  have h0 := h 0 (by simp)
  have h1 := ih (fun j hj => by
   have h2 := h (j + 1) (by simp only [List.length_cons]; omega)
   simp only [List.getElem_cons_succ] at h2
   exact h2)
  simp only [val, h1]
  simp at h0
  omega
structure Longhand (W N : Nat) (vs : List Nat) (M k : Nat) (L qs : List Nat) : Prop where
 le : k ≤ M - vs.length
 len : L.length = M
 dig : Dig W L
 qlen : qs.length = M - vs.length
 qdig : Dig W qs
 sum : val W qs * val W vs + val W L = N
 qzero : ∀ j (h : j < qs.length), j < k → qs[j] = 0
 zero : ∀ j (h : j < L.length), k + vs.length ≤ j → L[j] = 0
 rest : val W ((L.drop k).take vs.length) < val W vs
theorem Longhand.start {W : Nat} {vs us : List Nat} (hW : 0 < W) (hd : Dig W us) (hr : val W (us.drop (us.length - vs.length)) < val W vs) : Longhand W (val W us) vs us.length (us.length - vs.length) us (List.replicate (us.length - vs.length) 0) := by
 refine ⟨Nat.le_refl _, rfl, hd, by simp, Dig.zeros_ hW _, by rw [val_zeros]; simp, fun j h _ => by simp, fun j h hj => by omega, ?_⟩
 rw [List.take_of_length_le (by rw [List.length_drop]; omega)]
 exact hr
theorem Longhand.end_ {W N M : Nat} {vs L qs : List Nat} (h : Longhand W N vs M 0 L qs) : val W qs = N / val W vs ∧ val W L = N % val W vs := by
 have h1 := h.rest
 have h2 := h.sum
 rw [List.drop_zero] at h1
 have h3 : val W L = val W (L.take vs.length) := by
  by_cases hl : L.length ≤ vs.length
  ·rw [List.take_of_length_le hl]
  ·have h4 := val_take_drop W L vs.length (by omega)
   have h5 : val W (L.drop vs.length) = 0 := val_zero_of (fun j hj => by
    rw [List.length_drop] at hj
    rw [List.getElem_drop]
    exact h.zero _ (by omega) (by omega))
   rw [h5, Nat.mul_zero] at h4
   omega
 rw [← h3] at h1
 have hp : 0 < val W vs := by omega
 rw [Nat.mul_comm] at h2
 refine ⟨?_, ?_⟩
 ·rw [← h2, Nat.mul_add_div hp, Nat.div_eq_of_lt h1, Nat.add_zero]
 ·rw [← h2, Nat.mul_add_mod, Nat.mod_eq_of_lt h1]
theorem Longhand.window {W N M k m : Nat} {vs L qs : List Nat} (h : Longhand W N vs M (k + 1) L qs) (hn : vs.length = m + 2) (hv1 : 0 < vs[m + 1]) (hd : Dig W vs) (hW : 1 < W) (hl : k + vs.length < L.length) :
  (L[k + vs.length] ≤ vs[m + 1]) ∧
  ∃ U, U = val W ((L.drop k).take vs.length) + W ^ vs.length * L[k + vs.length] ∧ U < W * val W vs ∧ (digit3 W L[k + vs.length] L[k + m + 1] L[k + m] vs[m + 1] vs[m] = U / val W vs ∨ digit3 W L[k + vs.length] L[k + m + 1] L[k + m] vs[m + 1] vs[m] = U / val W vs + 1) := by
 have hr := h.rest
 have hX : ((L.drop k).take (vs.length + 1)).length = m + 3 := by rw [List.length_take, List.length_drop]; omega
 have e0 := val_top3 W ((L.drop k).take (vs.length + 1)) m hX
 have g0 : ((L.drop k).take (vs.length + 1))[m] = L[k + m] := by rw [List.getElem_take, List.getElem_drop]
 have g1 : ((L.drop k).take (vs.length + 1))[m + 1] = L[k + m + 1] := by rw [List.getElem_take, List.getElem_drop]; rfl
 have g2 : ((L.drop k).take (vs.length + 1))[m + 2] = L[k + vs.length] := by rw [List.getElem_take, List.getElem_drop]; congr 1; omega
 rw [g0, g1, g2] at e0
 have e1 : val W ((L.drop k).take (vs.length + 1)) = val W ((L.drop k).take vs.length) + W ^ vs.length * L[k + vs.length] := by
  have := val_take_succ W (L.drop k) vs.length (by rw [List.length_drop]; omega)
  rw [List.getElem_drop] at this
  exact this
 have e2 : val W ((L.drop k).take (vs.length + 1)) = L[k] + W * val W ((L.drop (k + 1)).take vs.length) := by
  rw [List.drop_eq_getElem_cons (show k < L.length by omega), List.take_succ_cons]; rfl
 have e3 := val_top2 W vs m hn
 have b0 := h.dig.at_ k (by omega)
 have b1 : val W (((L.drop k).take (vs.length + 1)).take m) < W ^ m := by
  have := val_lt W _ (((h.dig.drop_ k).take_ (vs.length + 1)).take_ m)
  rw [List.length_take, hX, Nat.min_eq_left (by omega)] at this
  exact this
 have b2 : val W (vs.take m) < W ^ m := by
  have := val_lt W _ (hd.take_ m)
  rw [List.length_take, hn, Nat.min_eq_left (by omega)] at this
  exact this
 have hUV : L[k] + W * val W ((L.drop (k + 1)).take vs.length) < W * val W vs := by
  have := Nat.mul_le_mul_left W hr
  rw [Nat.mul_succ] at this
  omega
 have hD : W ≤ vs[m + 1] * W + vs[m] := by
  have := Nat.mul_le_mul_right W hv1
  omega
 have htop : L[k + vs.length] ≤ vs[m + 1] := by
  rcases Nat.lt_or_ge vs[m + 1] L[k + vs.length] with hc | hc
  ·exfalso
   have a1 : W ^ vs.length * (vs[m + 1] + 1) ≤ W ^ vs.length * L[k + vs.length] := Nat.mul_le_mul_left _ hc
   have a2 : val W vs < W ^ m * (W * (vs[m + 1] + 1)) := by
    rw [e3]
    have c1 := hd.at_ m (by omega)
    have c2 : W ^ m * (vs[m] + W * vs[m + 1] + 1) ≤ W ^ m * (W * (vs[m + 1] + 1)) := Nat.mul_le_mul_left _ (by rw [Nat.mul_add]; omega)
    rw [Nat.mul_add (W ^ m) _ 1] at c2
    omega
   have a3 : W * (W ^ m * (W * (vs[m + 1] + 1))) = W ^ vs.length * (vs[m + 1] + 1) := by
    rw [show W ^ vs.length = W ^ m * W * W from by rw [hn, Nat.pow_succ, Nat.pow_succ]]
    rw [Nat.mul_comm W (W ^ m * _), Nat.mul_assoc, Nat.mul_assoc, Nat.mul_assoc, Nat.mul_comm (vs[m + 1] + 1) W]
    exact (Nat.mul_assoc _ _ _).symm
   have a4 : W * val W vs ≤ W * (W ^ m * (W * (vs[m + 1] + 1))) := Nat.mul_le_mul_left _ (Nat.le_of_lt a2)
   omega
  ·exact hc
 refine ⟨htop, val W ((L.drop k).take (vs.length + 1)), e1, by rw [e2]; exact hUV, ?_⟩
 have e4 : val W ((L.drop k).take (vs.length + 1)) = ((L[k + vs.length] * W + L[k + m + 1]) * W + L[k + m]) * W ^ m + val W (((L.drop k).take (vs.length + 1)).take m) := by
  rw [e0, Nat.add_comm]
  congr 1
  rw [Nat.mul_comm (W ^ m)]
  congr 1
  rw [Nat.add_comm (L[k + m])]
  congr 1
  rw [Nat.mul_comm W]
  congr 1
  rw [Nat.add_comm, Nat.mul_comm W]
 have e5 : val W vs = (vs[m + 1] * W + vs[m]) * W ^ m + val W (vs.take m) := by
  rw [e3, Nat.add_comm, Nat.mul_comm (W ^ m), Nat.add_comm vs[m], Nat.mul_comm W]
 exact digit3_near (Nat.pow_pos (by omega)) e5 b2 e4 b1 hD (by omega) (by rw [e2]; exact hUV)
def lay (L : List Nat) (k : Nat) (zs : List Nat) : List Nat := L.take k ++ zs ++ 0 :: L.drop (k + zs.length + 1)
theorem lay_eq {L : List Nat} {k : Nat} {zs : List Nat} (h : k + zs.length < L.length) : (patch L k zs).set (k + zs.length) 0 = lay L k zs := by
 unfold patch lay
 rw [List.drop_eq_getElem_cons h, List.set_append_right _ _ (by rw [List.length_append, List.length_take]; omega)]
 have e : k + zs.length - (L.take k ++ zs).length = 0 := by rw [List.length_append, List.length_take]; omega
 rw [e]; rfl
theorem lay_length {L : List Nat} {k : Nat} {zs : List Nat} (h : k + zs.length < L.length) : (lay L k zs).length = L.length := by
 unfold lay
 simp only [List.length_append, List.length_take, List.length_cons, List.length_drop]; omega
theorem lay_dig {b : Nat} {L : List Nat} {k : Nat} {zs : List Nat} (hb : 0 < b) (h : Dig b L) (hz : Dig b zs) : Dig b (lay L k zs) := ((h.take_ _).append_ hz).append_ (Dig.cons_ hb (h.drop_ _))
theorem lay_patch {L : List Nat} {k : Nat} {zs z2 : List Nat} (h : k + zs.length < L.length) (hl : z2.length = zs.length) : patch (lay L k zs) k z2 = lay L k z2 := by
 have h1 : (L.take k).length = k := by rw [List.length_take]; omega
 unfold patch
 have e1 : (lay L k zs).take k = L.take k := by
  unfold lay
  rw [List.append_assoc, List.take_left' h1]
 have e2 : (lay L k zs).drop (k + z2.length) = 0 :: L.drop (k + zs.length + 1) := by
  unfold lay
  rw [List.drop_left' (by rw [List.length_append, h1, hl])]
 rw [e1, e2]
 unfold lay
 rw [hl]
theorem lay_window {L : List Nat} {k : Nat} {zs : List Nat} (h : k + zs.length < L.length) : ((lay L k zs).drop k).take zs.length = zs := by
 have h1 : (L.take k).length = k := by rw [List.length_take]; omega
 unfold lay
 rw [List.append_assoc, List.drop_left' h1, List.take_left' rfl]
theorem lay_zero {L : List Nat} {k : Nat} {zs : List Nat} (h : k + zs.length < L.length) (hz : ∀ j (hj : j < L.length), k + 1 + zs.length ≤ j → L[j] = 0) : ∀ j (hj : j < (lay L k zs).length), k + zs.length ≤ j → (lay L k zs)[j] = 0 := by
 intro j hj hk
 have h1 : (L.take k ++ zs).length = k + zs.length := by rw [List.length_append, List.length_take]; omega
 unfold lay at hj ⊢
 rw [List.getElem_append_right (by omega)]
 rw [List.length_append, h1] at hj
 simp only [List.length_cons, List.length_drop] at hj
 obtain ⟨i, hi⟩ : ∃ i, i = j - (L.take k ++ zs).length := ⟨_, rfl⟩
 have : ∀ (i : Nat) (hi : i < (0 :: L.drop (k + zs.length + 1)).length), (0 :: L.drop (k + zs.length + 1))[i] = 0 := by
  intro i hi
  cases i with
  | zero => rfl
  | succ i =>
   rw [List.getElem_cons_succ, List.getElem_drop]
   simp only [List.length_cons, List.length_drop] at hi
   exact hz _ (by omega) (by omega)
 exact this _ _
theorem lay_val (b : Nat) {L : List Nat} {k : Nat} {zs : List Nat} (h : k + zs.length < L.length) : val b (lay L k zs) + b ^ k * (val b ((L.drop k).take zs.length) + b ^ zs.length * L[k + zs.length]) = val b L + b ^ k * val b zs := by
 have h1 : (L.take k).length = k := by rw [List.length_take]; omega
 have e1 := val_take_drop b L k (by omega)
 have e2 := val_take_drop b (L.drop k) zs.length (by rw [List.length_drop]; omega)
 rw [List.drop_drop, List.drop_eq_getElem_cons h] at e2
 have e3 : val b (L[k + zs.length] :: L.drop (k + zs.length + 1)) = L[k + zs.length] + b * val b (L.drop (k + zs.length + 1)) := rfl
 rw [e3] at e2
 have e4 : val b (lay L k zs) = val b (L.take k) + b ^ k * (val b zs + b ^ zs.length * (b * val b (L.drop (k + zs.length + 1)))) := by
  unfold lay
  rw [List.append_assoc, val_append, val_append, h1]
  simp [val]
 rw [e4, e1, e2]
 simp only [Nat.mul_add]
 omega
theorem Longhand.next {W N M k U : Nat} {vs L qs zs : List Nat} (h : Longhand W N vs M (k + 1) L qs) (hl : k + vs.length < L.length) (hz : zs.length = vs.length) (hzd : Dig W zs) (hU : U = val W ((L.drop k).take vs.length) + W ^ vs.length * L[k + vs.length])
  (hzv : val W zs = U % val W vs) (hq : U / val W vs < W) (hV : 0 < val W vs) (hW : 0 < W) : Longhand W N vs M k (lay L k zs) (qs.set k (U / val W vs)) := by
 have hl' : k + zs.length < L.length := by omega
 have h1 := h.le
 have h2 := h.qlen
 have hkq : k < qs.length := by omega
 have e1 := lay_val W hl'
 have e2 := val_set W qs k (U / val W vs) hkq
 rw [h.qzero k hkq (by omega), Nat.mul_zero, Nat.add_zero] at e2
 have e3 := h.sum
 have e4 := Nat.div_add_mod U (val W vs)
 have e5 : val W (lay L k zs) + W ^ k * U = val W L + W ^ k * (U % val W vs) := by
  rw [hzv] at e1
  rw [← e1, hU]
  congr 2
  simp only [hz]
 refine ⟨by omega, (lay_length hl').trans h.len, lay_dig hW h.dig hzd, by rw [List.length_set]; exact h2, h.qdig.set_ k _ hq, ?_, ?_, ?_, ?_⟩
 ·rw [e2, Nat.add_mul]
  have e6 : W ^ k * U = W ^ k * (U / val W vs) * val W vs + W ^ k * (U % val W vs) := by
   rw [Nat.mul_assoc, ← Nat.mul_add, Nat.mul_comm (U / val W vs), e4]
  omega
 ·intro j hj hjk
  rw [List.getElem_set]
  rw [if_neg (by omega)]
  rw [List.length_set] at hj
  exact h.qzero j hj (by omega)
 ·intro j hj hjk
  exact lay_zero hl' (fun j hj hjk => h.zero j hj (by omega)) j hj (by omega)
 ·have := lay_window hl'
  rw [hz] at this
  rw [this, hzv]
  exact Nat.mod_lt _ hV
end
section
open Go.RowKit
theorem patch_top {L zs : List Nat} {k : Nat} (h : k + zs.length < L.length) : ∃ h2 : k + zs.length < (patch L k zs).length, (patch L k zs)[k + zs.length]'h2 = L[k + zs.length] := by
 have h1 : (L.take k ++ zs).length = k + zs.length := by rw [List.length_append, List.length_take]; omega
 refine ⟨by rw [patch_length (by omega)]; exact h, ?_⟩
 have e : ∀ (i j : Nat) (hi : i < (L.drop (k + zs.length)).length) (hj : j < L.length), j = k + zs.length + i → (L.drop (k + zs.length))[i] = L[j] := by
  rintro i j hi hj rfl
  rw [List.getElem_drop]
 unfold patch
 rw [List.getElem_append_right (by omega)]
 exact e _ _ _ h (by omega)
def LongOut (g M n N V : Nat) (w w' : World) (e : Ending) : Prop :=
 ∃ (qs rs : List Nat) (gq : Nat), e = .returned (.slice (some ⟨gq, 0, none⟩) qs.length qs.length) ∧ qs.length = M - n ∧ Dig 18446744073709551616 qs ∧ val 18446744073709551616 qs = N / V ∧ rs.length = M ∧ Dig 18446744073709551616 rs ∧ val 18446744073709551616 rs = N % V ∧
  w.heap.size ≤ gq ∧ Blk w' gq 116 (u64s qs) ∧ Blk w' g 116 (u64s rs) ∧ Tn g w w'
set_option maxRecDepth 20000 in
set_option maxHeartbeats 3200000 in
theorem longQuotient_any (g m cu c : Nat) (us vs : List Nat) (A : Option Addr) (w : World) (hblk : Blk w g 116 (u64s us)) (hrx : Rx w g A (u64s vs)) (hd : Dig 18446744073709551616 us) (hdv : Dig 18446744073709551616 vs) (hn : vs.length = m + 2) (hv1 : 0 < vs[m + 1]) (hr : val 18446744073709551616 (us.drop (us.length - vs.length)) < val 18446744073709551616 vs)
  (hcu : us.length ≤ cu) (hm : us.length ≤ 35184372088832) (hm2 : vs.length ≤ 35184372088832) :
  Calls Tryz.prog 175 #[.slice (some ⟨g, 0, none⟩) us.length cu, .slice A vs.length c] w fun e w' => LongOut g us.length vs.length (val 18446744073709551616 us) (val 18446744073709551616 vs) w w' e := by
 rw [hn]
 have hgw := hblk.lt
 have hst := hi9 (Longhand.start (vs := vs) (by omega) hd hr)
 have hblk0 := hi9 hblk
 obtain ⟨N, hN⟩ : ∃ N, N = val 18446744073709551616 us := ⟨_, rfl⟩
 rw [← hN] at hst ⊢
 obtain ⟨M, hM⟩ : ∃ M, M = us.length := ⟨_, rfl⟩
 rw [← hM] at hst hm hcu ⊢
 have hmk := fun W => mk64 (M - (m + 2)) (by omega) W
 have hmx : max ((M : Int) - ((m : Int) + 2)) 0 = ((M - (m + 2) : Nat) : Int) := by omega
 have hrep : ∀ k : Nat, (List.replicate k (Value.int .u64 0)).toArray = (u64s (List.replicate k 0)).toArray := fun k => by simp [u64s]
 have Hrep := hi9 hrep
 clear hr hN hM hblk hrep
 go_enter Tryz.func175, Tryz.ntmps175
 go_wp2_with (simp only [hmx])
 go_loopw [7, 8, 9, 10] (fun i _ _ _ wr => ∃ (kk : Nat) (L qs : List Nat), i = .int .i64 ((kk : Int) - 1) ∧ Hid (Longhand 18446744073709551616 N vs M kk L qs) ∧ Blk wr g 116 (u64s L) ∧ Blk wr w.heap.size 116 (u64s qs) ∧ Tn g w wr) (fun i _ _ _ _ => (intOf i + 1).toNat)
 case atStart => exact ⟨M - (m + 2), us, List.replicate (M - (m + 2)) 0, rfl, by rw [← hn]; exact hst, hblk0.out.heapAlloc _, Blk.new_ (Hrep.out _), Tn.of_below (br9.alloc nl9 _) nl9⟩
 case round =>
  obtain ⟨kk, L, qs, rfl, hlg, hblk, hqb, htn⟩ := hrel
  by_cases h0 : kk = 0
  ·subst h0
   have hql : qs.length = M - (m + 2) := by have := hlg.out.qlen; omega
   have Hql := hi9 hql
   clear hst hblk0 hmk hmx hql
   go_wp2_with fail
   go_ret
   exact ⟨qs, L, w.heap.size, by rw [Hql.out]; rfl, Hql.out, hlg.out.qdig, hlg.out.end_.1, hlg.out.len, hlg.out.dig, hlg.out.end_.2, Nat.le_refl _, hqb, hblk, htn⟩
  ·obtain ⟨k, rfl⟩ : ∃ k, kk = k + 1 := ⟨kk - 1, by omega⟩
   have hle := hlg.out.le
   have hlen := hlg.out.len
   have hql := hlg.out.qlen
   have hl : k + vs.length < L.length := by omega
   obtain ⟨htop, U, hU, hUV, hdg⟩ := hlg.out.window hn hv1 hdv (by omega) hl
   have hLd := hlg.out.dig
   have d0 := hLd.at_ (k + vs.length) hl
   have d1 := hLd.at_ (k + m + 1) (by omega)
   have d2 := hLd.at_ (k + m) (by omega)
   have d3 := hdv.at_ (m + 1) (by omega)
   have d4 := hdv.at_ m (by omega)
   have c0 := hblk.cell (k + vs.length)
   rw [u64s_at hl] at c0
   have c1 := hblk.cell (k + m + 1)
   rw [u64s_at (by omega)] at c1
   have c2 := hblk.cell (k + m)
   rw [u64s_at (by omega)] at c2
   obtain ⟨b, off, rfl, hb, hbg, c3⟩ := (hrx.tn htn).at64 (show m + 1 < vs.length by omega)
   obtain ⟨b', off', he', _, _, c4⟩ := (hrx.tn htn).at64 (show m < vs.length by omega)
   obtain ⟨rfl, rfl⟩ : b = b' ∧ off = off' := by simpa using he'
   have Hg := fun W => guess_any L[k + vs.length] L[k + m + 1] L[k + m] vs[m + 1] vs[m] W d0 d1 d2 d3 d4 hv1 htop
   have hdb : digit3 18446744073709551616 L[k + vs.length] L[k + m + 1] L[k + m] vs[m + 1] vs[m] < 18446744073709551616 := by
    have : digit3 18446744073709551616 L[k + vs.length] L[k + m + 1] L[k + m] vs[m + 1] vs[m] ≤ 18446744073709551616 - 1 := Nat.min_le_left _ _
    omega
   obtain ⟨d, hde⟩ : ∃ d, d = digit3 18446744073709551616 L[k + vs.length] L[k + m + 1] L[k + m] vs[m + 1] vs[m] := ⟨_, rfl⟩
   rw [← hde] at Hg hdg hdb
   obtain ⟨top, htp⟩ : ∃ top, top = L[k + vs.length] := ⟨_, rfl⟩
   have Htp := hi9 htp
   rw [← htp] at Hg c0 hU d0
   obtain ⟨nx, hnx⟩ : ∃ nx, nx = L[k + m + 1] := ⟨_, rfl⟩
   rw [← hnx] at Hg c1 d1
   obtain ⟨th, hth⟩ : ∃ th, th = L[k + m] := ⟨_, rfl⟩
   rw [← hth] at Hg c2 d2
   obtain ⟨v1, hv1e⟩ : ∃ v1, v1 = vs[m + 1] := ⟨_, rfl⟩
   rw [← hv1e] at Hg c3 d3
   obtain ⟨v2, hv2e⟩ : ∃ v2, v2 = vs[m] := ⟨_, rfl⟩
   rw [← hv2e] at Hg c4 d4
   rw [hn] at c0
   have HG := hi9 Hg
   have HU := hi9 hU
   have HUV := hi9 hUV
   have Hdg := hi9 hdg
   have p1 : (k : Int) + ((m : Int) + 2) - 1 = (k : Int) + (m : Int) + 1 := by omega
   have p2 : (k : Int) + ((m : Int) + 2) - 2 = (k : Int) + (m : Int) := by omega
   have p3 : (m : Int) + 2 - 1 = (m : Int) + 1 := by omega
   have p4 : (m : Int) + 2 - 2 = (m : Int) := by omega
   clear hst hblk0 hmk hmx hU hUV hdg Hg htop hde htp hnx hth hv1e hv2e
   have hk1 : ((k + 1 : Nat) : Int) - 1 = (k : Int) := by omega
   rw [hk1]
   clear hk1
   go_upto_region 6 with fail
   go_cut [8] from 95 (fun dv W => dv = .int .u64 (d : Int) ∧ Dr wr W)
   case first =>
    go_quiet ((go_at_call 200; first | exact quietD (HG.out _) | exact quietAddD (HG.out _)))
    go_wp2
    go_meet
    case rel => exact ⟨rfl, by first | exact (Dr.refl _).step _ | exact Dr.refl _⟩
   case rest =>
    obtain ⟨rfl, hdr⟩ := hcut
    have hblk1 := hblk.below (hdr.below wr.heap.size) hblk.lt
    have hqb1 := hqb.below (hdr.below wr.heap.size) hqb.lt
    have htn1 : Tn g w wc := htn.trans (Tn.of_below (hdr.below wr.heap.size) nl9)
    have hrx1 := hrx.tn htn1
    have hVp : 0 < val 18446744073709551616 vs := by have := hlg.out.rest; omega
    have HVp := hi9 hVp
    have Htr : Hid (∀ _co : Nat, Calls Tryz.prog 201 #[.slice (some ⟨g, k, none⟩) (m + 2) (cu - k), .slice (some ⟨b, off, none⟩) (m + 2) c, .int .u64 (d : Int)] wc fun e w' => ∃ (zs : List Nat) (q : Nat), e = .returned (.int .u64 (q : Int)) ∧ zs.length = m + 2 ∧ Dig 18446744073709551616 zs ∧ q < 18446744073709551616 ∧ val 18446744073709551616 zs + val 18446744073709551616 vs * d = val 18446744073709551616 ((L.drop k).take (m + 2)) + 18446744073709551616 ^ (m + 2) * q ∧ Blk w' g 116 (u64s (patch L k zs)) ∧ Tn g wc w') := fun _ => by
     have h := takeRow_any g k (cu - k) L vs d (some ⟨b, off, none⟩) c wc hblk1 hrx1 (by omega) (by omega) hLd hdv hdb (by omega) (by omega)
     rw [hn] at h
     exact h
    clear hblk hqb htn hdr c0 c1 c2 c3 c4 d1 d2 d4 p1 p2 p3 p4 HG he' hVp
    go_wp2_with fail
    rw [show k + (m + 2) - k = m + 2 from by omega]
    refine (Htr.out 0).mono ?_
    rintro e w2 ⟨zs, lack, rfl, hzl, hzd, hlb, hzv, hblk2, htn2⟩
    rw [← hn] at hzl hzv
    have hk : k + zs.length < L.length := by omega
    obtain ⟨qq, hqq⟩ : ∃ qq, qq = U / val 18446744073709551616 vs := ⟨_, rfl⟩
    have hfix := hi9 (knuth_fix HU.out (by have := val_lt _ _ hzd; rwa [hzl] at this) HVp.out (val_lt _ _ hdv) hzv Hdg.out)
    rw [← hqq] at hfix
    have Hqq := hi9 hqq
    have hqW : qq < 18446744073709551616 := by rw [hqq]; exact (Nat.div_lt_iff_lt_mul HVp.out).2 HUV.out
    clear hqq
    have hqb2 := hqb1.tn htn2 (by omega)
    have htn2w := htn1.trans htn2
    obtain ⟨hpt, hpe⟩ := patch_top hk
    have c0 := hblk2.cell (k + zs.length)
    rw [u64s_at hpt, hpe] at c0
    have hte : L[k + zs.length] = top := by rw [Htp.out]; congr 1; omega
    rw [hte, hzl, hn] at c0
    have f0 := hblk2.frozen (k + (m + 2))
    have hset := hblk2.set_ (k + zs.length) (.int .u64 ((0 : Nat) : Int))
    rw [u64s_set, lay_eq hk, hzl, hn] at hset
    have htn3 := htn2w.setCell (k + (m + 2)) (.int .u64 0)
    have hqb3 := hqb2.far (p := ⟨g, k + (m + 2), none⟩) (show w.heap.size ≠ g by omega) (.int .u64 0)
    have Hset := hi9 hset
    have Htn3 := hi9 htn3
    have Hqb3 := hi9 hqb3
    have Hzl := hi9 hzl
    clear hzv hpt hpe hte hset htn3 hqb3 hblk1 hqb1 htn1 hrx1 hblk2 htn2 hqb2 htn2w hzl
    go_upto_if 79 with fail
    obtain ⟨w3, hw3⟩ : ∃ w3, w3 = w2.setCell ⟨g, k + (m + 2), none⟩ (.int .u64 0) := ⟨_, rfl⟩
    have h3b : Blk w3 g 116 (u64s (lay L k zs)) := by rw [hw3]; exact Hset.out
    have h3q : Blk w3 w.heap.size 116 (u64s qs) := by rw [hw3]; exact Hqb3.out
    have h3t : Tn g w w3 := by rw [hw3]; exact Htn3.out
    rw [← hw3]
    clear hw3 Hset Hqb3 Htn3 c0 f0
    go_cut [8, 79] from 95 (fun dv _ W => ∃ z2 : List Nat, dv = .int .u64 (qq : Int) ∧ Hid (z2.length = m + 2) ∧ Dig 18446744073709551616 z2 ∧ Hid (val 18446744073709551616 z2 = U % val 18446744073709551616 vs) ∧ Blk W g 116 (u64s (lay L k z2)) ∧ Blk W w.heap.size 116 (u64s qs) ∧ Tn g w W)
    case first =>
     by_cases hlk : top < lack
     ·have t1 : decide ((top : Int) < (lack : Int)) = true := decide_eq_true (by omega)
      obtain ⟨hdq, hzV⟩ := hfix.out.2 hlk
      have eD : IntKind.u64.wrap ((d : Int) - 1) = (qq : Int) := by rw [IntKind.wrap_u64]; omega
      have eD2 : (d : Int) - 1 = (qq : Int) := by omega
      have HzV := hi9 hzV
      have Hai := hi9 (addInto_any g k vs.length (cu - k) (lay L k zs) vs (some ⟨b, off, none⟩) c w3 h3b (hrx.tn h3t) (by rw [lay_length hk]; omega) nl9 (lay_dig (by omega) hLd hzd) hdv (by omega))
      rw [hn] at Hai
      clear hzV hdq hfix
      go_wp2_with (first | (simp only [t1]) | (simp only [hlk, decide_true]))
      rw [show k + (m + 2) - k = m + 2 from by omega]
      refine (Hai.out).mono ?_
      rintro e w4 ⟨z2, cy, rfl, hz2l, hz2d, hcy, hz2v, hblk4, htn4⟩
      rw [← hn] at hz2l hz2v
      rw [lay_patch hk (by rw [hz2l, Hzl.out])] at hblk4
      have hwin := lay_window hk
      rw [Hzl.out] at hwin
      rw [hwin] at hz2v
      have Hz2 := hi9 (show val 18446744073709551616 z2 = U % val 18446744073709551616 vs from by
       have h1 := val_lt _ _ hz2d
       rw [hz2l] at h1
       have h2 := HzV.out
       have h3 := Nat.mod_lt U HVp.out
       have h4 := val_lt _ _ hdv
       have h5 : cy = 0 ∨ cy = 1 := by omega
       rcases h5 with rfl | rfl
       ·rw [Nat.mul_zero] at hz2v; omega
       ·rw [Nat.mul_one] at hz2v; omega)
      have Hz2l := hi9 (hz2l.trans hn)
      have h4q := h3q.tn htn4 (by omega)
      have h4t := h3t.trans htn4
      clear hz2v hwin hz2l h3b h3q h3t
      go_wp2_with (first | (simp only []) | (simp only [eD2]))
      go_meet
      case rel => exact ⟨z2, rfl, Hz2l, hz2d, Hz2, hblk4, h4q, h4t⟩
     ·have t1 : decide ((top : Int) < (lack : Int)) = false := decide_eq_false (by omega)
      obtain ⟨hdq, hzV⟩ := hfix.out.1 hlk
      have HzV := hi9 hzV
      subst hdq
      clear hzV hfix
      go_wp2_with (first | (simp only [t1]) | (simp only [hlk, decide_false]))
      go_meet
      case rel => exact ⟨zs, rfl, hi9 (Hzl.out.trans hn), hzd, HzV, h3b, h3q, h3t⟩
    case rest =>
     clear h3b h3q h3t hzd hfix
     obtain ⟨z2, rfl, Hz2l, hz2d, Hz2, h4b, h4q, h4t⟩ := hcut
     have Hnext := hi9 (hlg.out.next hl (Hz2l.out.trans hn.symm) hz2d (by rw [← Htp.out]; exact HU.out) Hz2.out (by rw [← Hqq.out]; exact hqW) HVp.out (by omega))
     rw [← Hqq.out] at Hnext
     have hkq : k < qs.length := by omega
     have c5 := h4q.cell k
     rw [u64s_at hkq] at c5
     have f5 := h4q.frozen k
     have hs := h4q.set_ k (.int .u64 (qq : Int))
     rw [u64s_set] at hs
     have Hs := hi9 hs
     have H4b := hi9 (h4b.far (p := ⟨w.heap.size, k, none⟩) (show g ≠ w.heap.size by omega) (.int .u64 (qq : Int)))
     have H4t := hi9 (h4t.chNew ((Ch.refl w.heap.size _).setCell k (.int .u64 (qq : Int))) nl9)
     have hkM : k < M - (m + 2) := by omega
     clear hs
     go_wp2_with fail
     case roundEnd => exact ⟨⟨k, lay L k z2, qs.set k qq, by go_num, Hnext, H4b.out, Hs.out, H4t.out⟩, by simp [intOf]⟩
end
section
open Go.RowKit
set_option maxRecDepth 100000 in
set_option maxHeartbeats 3200000 in
theorem twoLong_any (n : Nat) (h2 : 2 ≤ n) (hm : n ≤ 268435456) (hb : n < 200 ∨ n % 2 = 1) : TwoOk n := by
 intro A A2 c c2 us vs U V w B hn hr hr2 hB hU hd2 hV htop hlt hc hc2
 have hVn : V < 18446744073709551616 ^ n := by rw [← hV, ← hn]; exact val_lt _ _ hd2
 have hul : us.length ≤ 2 * n := num_len hU (by
  rw [show 2 * n = n + n from by omega, Nat.pow_add]
  exact Nat.lt_of_lt_of_le hlt (Nat.mul_le_mul_right _ (Nat.le_of_lt hVn)))
 obtain ⟨m, rfl⟩ : ∃ m, n = m + 2 := ⟨n - 2, by omega⟩
 obtain ⟨L, hL⟩ : ∃ L, L = max us.length (m + 2) := ⟨_, rfl⟩
 have hmx : max (us.length : Int) ((m : Int) + 2) = (L : Int) := by omega
 have hLu : us.length ≤ L := by omega
 have hLm : m + 2 ≤ L := by omega
 have hLb : L ≤ 536870912 := by omega
 clear hL
 have hmk : ∀ W : World, (Instr.makeSlice 132 (.int .i64 ((L : Int) + 1)) (.int .i64 ((L : Int) + 1))).run Tryz.prog W = .ok (.slice (some ⟨W.heap.size, 0, none⟩) (L + 1) (L + 1)) (W.alloc (.cells (List.replicate (L + 1) (Value.int .u64 0)).toArray 116)) := fun W => by
  have := mk64 (L + 1) (by omega) W
  rwa [show ((L + 1 : Nat) : Int) = (L : Int) + 1 from by omega] at this
 have hmin : min us.length (L + 1) = us.length := by omega
 rw [hn] at hc2 ⊢
 have hgl : Hid (∀ W z, Blk W z 116 (u64s (us ++ List.replicate (L + 1 - us.length) 0)) → Below w.heap.size w W → w.heap.size ≤ z → Calls Tryz.prog 175 #[.slice (some ⟨z, 0, none⟩) (L + 1) (L + 1), .slice A2 (m + 2) c2] W fun e w' => LongOut z (L + 1) (m + 2) U V W w' e) := fun W z hbk hbe hz => by
  have hl : (us ++ List.replicate (L + 1 - us.length) 0).length = L + 1 := by simp; omega
  have hd : Dig 18446744073709551616 (us ++ List.replicate (L + 1 - us.length) 0) := hU.1.append_ (Dig.zeros_ (by omega) _)
  have hv : val 18446744073709551616 (us ++ List.replicate (L + 1 - us.length) 0) = U := by rw [val_append, val_zeros, Nat.mul_zero, Nat.add_zero, hU.2.2]
  have h := longQuotient_any z m (L + 1) c2 (us ++ List.replicate (L + 1 - us.length) 0) vs A2 W hbk ((hr2.below (hbe.mono hB)).rx (by omega) (Nat.le_trans hB hbe.size)) hd hd2 hn (top_word hn hd2 (by rw [hV]; exact htop)) (by
   rw [val_drop (by omega) _ _ hd, hv, hl, hn, hV, Nat.div_lt_iff_lt_mul (Nat.pow_pos (by omega))]
   have h1 : U < 18446744073709551616 ^ L := Nat.lt_of_lt_of_le hU.lt (Nat.pow_le_pow_right (by omega) (by omega))
   have h3 : 18446744073709551616 ^ L = 18446744073709551616 ^ (m + 1) * 18446744073709551616 ^ (L + 1 - (m + 2)) := by rw [← Nat.pow_add]; congr 1; omega
   rw [h3] at h1
   refine Nat.lt_of_lt_of_le h1 (Nat.mul_le_mul_right _ ?_)
   rw [Nat.pow_succ] at htop
   omega) (by rw [hl]; exact Nat.le_refl _) (by rw [hl]; omega) (by omega)
  rwa [hl, hn, hv, hV] at h
 have hx := hU.1
 rcases hb with hb | hb
 case' inl =>
  have t2 : decide ((m : Int) + 2 < 200) = true := decide_eq_true (by omega)
  go_enter Tryz.func203, Tryz.ntmps203
  go_upto_region 3 with (simp only [t2])
 case' inr =>
  by_cases hb2 : m + 2 < 200
  case' pos =>
   have t2 : decide ((m : Int) + 2 < 200) = true := decide_eq_true (by omega)
  case' neg =>
   have t2 : decide ((m : Int) + 2 < 200) = false := decide_eq_false (by omega)
  all_goals have t3 : ((m : Int) % 2 == 1) = true := by simp only [beq_iff_eq]; omega
  all_goals go_enter Tryz.func203, Tryz.ntmps203
  all_goals go_upto_region 3 with (first | simp only [t2] | simp only [t3])
 all_goals
  go_upto_region 4 with (simp only [hmx])
  go_upto_region 5 with ((with_reducible refine wpList_copy_splice (o := ⟨some 30, _, _, _, _, _⟩) rfl _ _ _ _ rfl 116 Tryz.underlying132 ?u1 _ _ _ _ _ _ rfl rfl w.heap.size 0 (u64s (List.replicate (L + 1) 0)) 116 ?c1 (u64s us) ?c2 ?c3 ?c4 ?c5 w.heap.size w ?c6 nl9 ?_); rotate_right; intro w2 hg2 hb2)
  case u1 => kernel_rfl
  case c1 => exact Blk.new_ (by simp [u64s])
  case c2 => rw [u64s_length]; first | exact (Nat.min_eq_left (by omega)).symm | exact (Nat.min_eq_right (by omega)).symm
  case c3 =>
   intro hp
   have hne : u64s us ≠ [] := by intro e; rw [e] at hp; simp at hp
   obtain ⟨b, off, rfl, hbB, hcell⟩ := hr hne
   refine ⟨_, rfl, fun j v hv => ?_⟩
   rw [add_none]
   rw [World.cell?_alloc_past _ _ _ (by show b < _; omega)]
   exact hcell j v hv
  case c4 => rw [u64s_length, u64s_length, List.length_replicate]; omega
  case c5 => exact one_u64s us
  case c6 => exact br9.alloc nl9 _
  have hg3 : Blk w2 w.heap.size 116 (u64s (us ++ List.replicate (L + 1 - us.length) 0)) := by
   have h9 := hg2.out
   have e := join_low (L + 1) 0 us (by omega)
   rw [Nat.add_zero, List.replicate_zero, List.append_nil] at e
   rwa [u64s_splice, e] at h9
  clear hg2 hmk
  go_upto_region 6 with ((with_reducible refine (hgl.out _ _ hg3 hb2 nl9).mono ?_); rintro e w3 ⟨qs, rs, gq, rfl, hql, hqd, hqv, hrl, hrd, hrv, hgq, hbq, hbr, htn⟩; have Hqv := hi9 hqv; have Hql := hi9 hql; have Hrv := hi9 hrv; have Hrl := hi9 hrl; clear hqv hql hrv hrl)
  have hmb : rs.length ≤ 536870913 := by rw [Hrl.out]; omega
  have hmq : qs.length ≤ 536870913 := by rw [Hql.out]; omega
  have ht1 := trimWords_any (some ⟨gq, 0, none⟩) qs.length qs w3 w3.heap.size (Rd.of_blk hbq hbq.lt 0 (fun k v hv => by rw [Nat.zero_add]; exact hv)) nl9 (by omega)
  have ht2 := trimWords_any (some ⟨w.heap.size, 0, none⟩) rs.length rs w3 w3.heap.size (Rd.of_blk hbr hbr.lt 0 (fun k v hv => by rw [Nat.zero_add]; exact hv)) nl9 (by omega)
  rw [Hrl.out] at ht2
  have Ht1 := hi9 ht1
  have Ht2 := hi9 ht2
  clear ht1 ht2
  go_wp2_with (first
   | (go_at_call_of 157 (Value.slice (some ⟨gq, 0, none⟩) qs.length qs.length); (with_reducible refine Ht1.out.mono ?_); rintro e wr' ⟨rfl, rfl⟩)
   | (go_at_call 157; (with_reducible refine Ht2.out.mono ?_); rintro e wr' ⟨rfl, rfl⟩))
  go_ret2
  have n1 := Num.of_trim hqd
  have n2 := Num.of_trim hrd
  rw [Hqv.out] at n1
  rw [Hrv.out] at n2
  have r1 := (Rd.of_blk hbq hbq.lt 0 (fun k v hv => by rw [Nat.zero_add]; exact hv) : Rd w3 w3.heap.size (some ⟨gq, 0, none⟩) (u64s qs)).takeN (trimL qs).length
  have r2 := (Rd.of_blk hbr hbr.lt 0 (fun k v hv => by rw [Nat.zero_add]; exact hv) : Rd w3 w3.heap.size (some ⟨w.heap.size, 0, none⟩) (u64s rs)).takeN (trimL rs).length
  rw [trimL_take] at r1 r2
  exact ⟨trimL qs, trimL rs, _, qs.length, _, L + 1, rfl, n1, n2, trimL_length_le qs, by have := trimL_length_le rs; have := Hrl.out; omega, r1, r2, fun g hg => (rx_whole hbr (by omega)).trim_, hb2.trans (htn.below nl9 hb2.size)⟩
set_option maxRecDepth 100000 in
set_option maxHeartbeats 3200000 in
theorem twoHalf_any (h : Nat) (h2 : 100 ≤ h) (hm : h ≤ 134217728) (hT : TwoOk h) : TwoOk (2 * h) := by
 intro A A2 c c2 us vs U V w B hn hr hr2 hB hU hd2 hV htop hlt hc hc2
 have hVn : V < 18446744073709551616 ^ (2 * h) := by rw [← hV, ← hn]; exact val_lt _ _ hd2
 have hul : us.length ≤ 4 * h := num_len hU (by
  rw [show 4 * h = 2 * h + 2 * h from by omega, Nat.pow_add]
  exact Nat.lt_of_lt_of_le hlt (Nat.mul_le_mul_right _ (Nat.le_of_lt hVn)))
 obtain ⟨b, hb⟩ : ∃ b, b = 18446744073709551616 ^ h := ⟨_, rfl⟩
 have hb0 : 0 < b := by rw [hb]; exact Nat.pow_pos (by omega)
 have hbb : 18446744073709551616 ^ (2 * h) = b * b := by rw [hb, ← Nat.pow_add]; congr 1; omega
 have hV0 : 0 < V := by rw [hbb] at htop; have := Nat.mul_pos hb0 hb0; omega
 obtain ⟨hs, hhs⟩ : ∃ hs, hs = trimL (us.drop h) := ⟨_, rfl⟩
 obtain ⟨ls, hls⟩ : ∃ ls, ls = trimL (us.take h) := ⟨_, rfl⟩
 have nhs : Num 18446744073709551616 hs (U / b) := by rw [hb, hhs]; exact num_drop hU h
 have nls : Num 18446744073709551616 ls (U % b) := by rw [hb, hls]; exact num_take hU h
 have hl1 : U / b < V * b := by rw [Nat.div_lt_iff_lt_mul hb0, Nat.mul_assoc, ← hbb]; exact hlt
 have lls : ls.length ≤ h := num_len nls (by rw [← hb]; exact Nat.mod_lt _ hb0)
 have Hc1 : Hid (∀ W, Below w.heap.size w W → Calls Tryz.prog 205 #[.slice A us.length c, .int .i64 (h : Int), .int .i64 (2 * (2 * (h : Int)))] W fun e w' => ∃ A' c', e = .returned (.slice A' hs.length c') ∧ Rd W B A' (u64s hs) ∧ hs.length ≤ c' ∧ W = w') := fun W hW => by
  have := cut_any A c h (2 * (2 * h)) us W B (hr.below (hW.mono hB)) hc (by omega)
  rw [List.take_of_length_le (by omega), ← hhs] at this
  exact this
 have Hc2 : Hid (∀ W, Below w.heap.size w W → Calls Tryz.prog 205 #[.slice A us.length c, .int .i64 0, .int .i64 (h : Int)] W fun e w' => ∃ A' c', e = .returned (.slice A' ls.length c') ∧ Rd W B A' (u64s ls) ∧ ls.length ≤ c' ∧ W = w') := fun W hW => by
  have := cut_low A c h us W B (hr.below (hW.mono hB)) hc (by omega)
  rwa [← hls] at this
 have Hthree : Hid (∀ W A' c' xs X, Rd W W.heap.size A' (u64s xs) → Below w.heap.size w W → Num 18446744073709551616 xs X → X < V * b → xs.length ≤ c' → Calls Tryz.prog 215 #[.slice A' xs.length c', .slice A2 (2 * h) c2] W fun e w' => HalfOut W w' X V e) := fun W A' c' xs X q1 q2 q3 q4 q5 => by
  have := threeByTwo_any h hT A' A2 c' c2 xs vs X V W W.heap.size hn (by omega) hm q1 ((hr2.below (q2.mono hB)).mono (Nat.le_trans hB q2.size)) nl9 q3 hd2 hV htop (by rw [← hb]; exact q4) q5 hc2
  rwa [hn] at this
 rw [hn] at hc2 ⊢
 have Hb := hi9 hb
 clear hhs hls hb hbb
 have t2 : decide (2 * (h : Int) < 200) = false := decide_eq_false (by omega)
 have t3 : (2 * (h : Int) % 2 == 1) = false := by simp
 have e1 : 2 * (h : Int) / 2 = (h : Int) := by omega
 go_enter Tryz.func203, Tryz.ntmps203
 go_upto_region 8 with (first | simp only [t2] | simp only [t3] | simp only [e1])
 go_upto_region 9 with (first
  | (simp only [])
  | (go_at_call 205; (with_reducible refine (Hc1.out _ br9).mono ?_); rintro e w1 ⟨Ah, ch, rfl, hrh, hch, rfl⟩)
  | (go_at_call 215; (with_reducible refine (Hthree.out _ _ _ _ _ (hrh.mono hB) br9 nhs hl1 hch).mono ?_); rintro e w2 ⟨qs, rs, Q, cq, R, cr, rfl, nqs, nrs, hcq, hcr, hq2, hr3, _, hb2⟩))
 obtain ⟨q1, hq1⟩ : ∃ q, q = U / b / V := ⟨_, rfl⟩
 obtain ⟨r1, hr1⟩ : ∃ r, r = U / b % V := ⟨_, rfl⟩
 rw [← hq1] at nqs
 rw [← hr1] at nrs
 have lqs : qs.length ≤ h := num_len nqs (by rw [hq1, ← Hb.out]; exact (Nat.div_lt_iff_lt_mul hV0).2 (by rw [Nat.mul_comm]; exact hl1))
 have hr1V : r1 < V := by rw [hr1]; exact Nat.mod_lt _ hV0
 have lrs : rs.length ≤ 2 * h := num_len nrs (by omega)
 have hulb : U % b < b := Nat.mod_lt _ hb0
 have hl2 : r1 * b + U % b < V * b := by
  have := Nat.mul_le_mul_right b hr1V
  rw [Nat.succ_mul] at this
  omega
 have Hq1 := hi9 hq1
 have Hr1 := hi9 hr1
 clear hq1 hr1
 obtain ⟨N0, hN0⟩ : ∃ N0, N0 = h + rs.length := ⟨_, rfl⟩
 have Hj1 : Hid (∀ W A' c', Rd W B A' (u64s ls) → Rd W W.heap.size R (u64s rs) → B ≤ W.heap.size → Calls Tryz.prog 204 #[.slice A' ls.length c', .slice R rs.length cr, .int .i64 (h : Int)] W fun e w' => JoinOut W w' N0 (r1 * b + U % b) e) := fun W A' c' z1 z2 z3 => by
  have := joined_any A' R c' cr h ls rs W W.heap.size (z1.mono z3) z2 nl9 nls.1 nrs.1 lls (by omega) (by omega)
  rw [nls.2.2, nrs.2.2, ← Hb.out, ← hN0] at this
  rw [Nat.add_comm, Nat.mul_comm]
  exact this
 clear Hc1 hch hrh hN0
 go_upto_region 10 with (first
  | (simp only [])
  | (go_at_call 205; (with_reducible refine (Hc2.out _ hb2).mono ?_); rintro e w3 ⟨Al, cl, rfl, hrl, hcl, rfl⟩)
  | (go_at_call 204; (with_reducible refine (Hj1.out _ _ _ hrl hr3 (Nat.le_trans hB hb2.size)).mono ?_); rintro e w4 ⟨ys, g, rfl, hyl, hyd, hyv, hg, hbk, hb4⟩; have hbt4 : Below w.heap.size w w4 := hb2.trans (hb4.mono hb2.size); have nys : Num 18446744073709551616 (trimL ys) (r1 * b + U % b) := (by have n9 := Num.of_trim hyd; rwa [hyv] at n9); have hry := ((Rd.of_blk hbk hbk.lt 0 (fun k v hv => by rw [Nat.zero_add]; exact hv) : Rd w4 w4.heap.size (some ⟨g, 0, none⟩) (u64s ys)).takeN (trimL ys).length); rw [trimL_take] at hry; clear hyv hyl)
  | (go_at_call 215; (with_reducible refine (Hthree.out _ _ _ _ _ hry hbt4 nys hl2 (trimL_length_le ys)).mono ?_); rintro e w5 ⟨qs2, rs2, Q2, cq2, R2, cr2, rfl, nqs2, nrs2, hcq2, hcr2, hq5, hr5, hx5, hb5⟩))
 have lqs2 : qs2.length ≤ h := num_len nqs2 (by rw [← Hb.out]; exact (Nat.div_lt_iff_lt_mul hV0).2 (by rw [Nat.mul_comm b V]; exact hl2))
 have hb35 := hb4.trans (hb5.mono hb4.size)
 have hqa := (hq2.below hb35).mono hb35.size
 have hbt5 : Below w.heap.size w w5 := hbt4.trans (hb5.mono hbt4.size)
 have hj2 := joined_any Q2 Q cq2 cq h qs2 qs w5 w5.heap.size hq5 hqa nl9 nqs2.1 nqs.1 lqs2 (by omega) (by omega)
 rw [nqs2.2.2, nqs.2.2, ← Hb.out] at hj2
 have Hj2 := hi9 hj2
 have hfin : (r1 * b + U % b) / V + b * q1 = U / V ∧ (r1 * b + U % b) % V = U % V := by
  have e3 : (r1 * b + U % b) % V + ((r1 * b + U % b) / V + b * q1) * V = U := by
   have a1 := Nat.div_add_mod (r1 * b + U % b) V
   have a2 := Nat.div_add_mod (U / b) V
   have a3 := Nat.div_add_mod U b
   rw [← Hq1.out, ← Hr1.out] at a2
   have a4 : b * (V * q1 + r1) = b * (U / b) := by rw [a2]
   rw [Nat.mul_add] at a4
   rw [Nat.add_mul, Nat.mul_comm _ V, Nat.mul_comm r1 b] at *
   have a5 : b * q1 * V = b * (V * q1) := by rw [Nat.mul_assoc, Nat.mul_comm q1]
   omega
  have e4 : U < ((r1 * b + U % b) / V + b * q1 + 1) * V := by
   have := Nat.mod_lt (r1 * b + U % b) hV0
   rw [Nat.add_mul _ 1, Nat.one_mul]
   omega
  obtain ⟨f1, f2⟩ := bz_done e3 e4
  exact ⟨f1, f2⟩
 have Hfin := hi9 hfin
 clear hj2 hfin
 go_wp2_with ((with_reducible refine (Hj2.out).mono ?_); rintro e w6 ⟨zs, gz, rfl, hzl, hzd, hzv, hgz, hbz, hb6⟩; have Hzv := hi9 hzv; have Hzl := hi9 hzl; clear hzv hzl)
 go_ret2
 have n1 := Num.of_trim hzd
 rw [Hzv.out, Hfin.out.1] at n1
 have n2 := nrs2
 rw [Hfin.out.2] at n2
 have r9 := ((Rd.of_blk hbz hbz.lt 0 (fun k v hv => by rw [Nat.zero_add]; exact hv) : Rd w6 w6.heap.size (some ⟨gz, 0, none⟩) (u64s zs)).takeN (trimL zs).length)
 rw [trimL_take] at r9
 exact ⟨trimL zs, rs2, _, zs.length, _, cr2, rfl, n1, n2, trimL_length_le zs, hcr2, r9, (hr5.below hb6).mono hb6.size, fun g hg => Rx.keep (hx5 g (Nat.lt_of_lt_of_le hg hbt4.size)) hb6 nl9, hbt5.trans (hb6.mono hbt5.size)⟩
theorem two_any : ∀ n : Nat, 2 ≤ n → n ≤ 268435456 → TwoOk n := fun n => by
 induction n using Nat.strongRecOn with
 | _ n ih =>
  intro h2 hm
  by_cases hb : n < 200 ∨ n % 2 = 1
  ·exact twoLong_any n h2 hm hb
  ·have h := twoHalf_any (n / 2) (by omega) (by omega) (ih (n / 2) (by omega) (by omega) (by omega))
   rwa [show 2 * (n / 2) = n from by omega] at h
end
section
open Go.RowKit
theorem half_cover {s P n : Nat} (h : n ≤ s * P) (h2 : (s - 1) * P < n) (hs : 1 ≤ s) : n ≤ (s + 1) / 2 * (2 * P) ∧ ((s + 1) / 2 - 1) * (2 * P) < n := by
 constructor
 ·have h3 : s * P ≤ (2 * ((s + 1) / 2)) * P := Nat.mul_le_mul_right _ (by omega)
  rw [← Nat.mul_assoc, Nat.mul_comm _ 2]
  omega
 ·have h3 : (2 * ((s + 1) / 2 - 1)) * P ≤ (s - 1) * P := Nat.mul_le_mul_right _ (by omega)
  rw [← Nat.mul_assoc, Nat.mul_comm _ 2]
  omega
theorem cover_le {s P n : Nat} (h2 : (s - 1) * P < n) (hs : 2 ≤ s) : s * P < 2 * n := by
 have h3 : s * P ≤ (2 * (s - 1)) * P := Nat.mul_le_mul_right _ (by omega)
 rw [Nat.mul_assoc] at h3
 omega
theorem pow_small {k n : Nat} (h : 2 ^ k < n) (hn : n ≤ 134217728) : k < 27 := by
 rcases Nat.lt_or_ge k 27 with h9 | h9
 ·exact h9
 ·exfalso
  have := Nat.pow_le_pow_right (show 0 < 2 by omega) h9
  have e : (2 : Nat) ^ 27 = 134217728 := rfl
  omega
structure Blocks (U2 V2 sz bl K : Nat) (qs : List Nat) (r : Nat) : Prop where
 len : qs.length = bl * sz
 le : K ≤ bl
 noughts : qs.take (K * sz) = List.replicate (K * sz) 0
 dig : Dig 18446744073709551616 qs
 eq : val 18446744073709551616 qs * V2 + 18446744073709551616 ^ (K * sz) * r + U2 % 18446744073709551616 ^ (K * sz) = U2
 lt : r < V2
theorem Blocks.start {U2 V2 sz bl : Nat} (hV : 0 < V2) (hU : U2 < 18446744073709551616 ^ (bl * sz)) : Blocks U2 V2 sz bl bl (List.replicate (bl * sz) 0) 0 where
 len := List.length_replicate
 le := Nat.le_refl _
 noughts := by rw [List.take_replicate, Nat.min_self]
 dig := Dig.zeros_ (by omega) _
 eq := by rw [val_zeros, Nat.zero_mul, Nat.mul_zero, Nat.zero_add, Nat.mod_eq_of_lt hU]
 lt := hV
theorem Blocks.end_ {U2 V2 sz bl r : Nat} {qs : List Nat} (h : Blocks U2 V2 sz bl 0 qs r) : val 18446744073709551616 qs = U2 / V2 ∧ r = U2 % V2 := by
 have h1 := h.eq
 rw [Nat.zero_mul, Nat.pow_zero, Nat.one_mul, Nat.mod_one, Nat.add_zero] at h1
 refine bz_done (V := V2) (by omega) ?_
 have := h.lt
 rw [Nat.add_mul, Nat.one_mul]
 omega
theorem Blocks.next {U2 V2 sz bl k r X : Nat} {qs D : List Nat} (h : Blocks U2 V2 sz bl (k + 1) qs r) (hX : X = U2 / 18446744073709551616 ^ (k * sz) % 18446744073709551616 ^ sz + 18446744073709551616 ^ sz * r) (hD : Dig 18446744073709551616 D) (hv : val 18446744073709551616 D = X / V2) (hl : D.length ≤ sz) :
  Blocks U2 V2 sz bl k (patch qs (k * sz) D) (X % V2) := by
 have e1 : (k + 1) * sz = k * sz + sz := Nat.succ_mul k sz
 have hle : k * sz + sz ≤ qs.length := by rw [h.len, ← e1]; exact Nat.mul_le_mul_right _ h.le
 obtain ⟨a, ha⟩ : ∃ a, a = k * sz := ⟨_, rfl⟩
 have hn := h.noughts
 have he := h.eq
 rw [e1, ← ha] at hn he
 rw [← ha] at hX hle
 have hseg : (qs.drop a).take D.length = List.replicate D.length 0 := by
  have h2 : ((qs.take (a + sz)).drop a).take D.length = (qs.drop a).take D.length := by
   rw [List.drop_take, List.take_take, Nat.min_eq_left (by omega)]
  rw [← h2, hn, List.drop_replicate, List.take_replicate, Nat.min_eq_left (by omega)]
 have hp := patch_val 18446744073709551616 (L := qs) (o := a) (zs := D) (by omega)
 rw [hseg, val_zeros, Nat.mul_zero, Nat.add_zero, hv] at hp
 have hV : 0 < V2 := by have := h.lt; omega
 refine { len := by rw [patch_length (by rw [← ha]; omega), h.len], le := by have := h.le; omega, noughts := ?_, dig := patch_dig h.dig hD, eq := ?_, lt := Nat.mod_lt _ hV }
 ·rw [← ha]
  have h3 : qs.take a = List.replicate a 0 := by
   have h4 : (qs.take (a + sz)).take a = qs.take a := by rw [List.take_take, Nat.min_eq_left (by omega)]
   rw [← h4, hn, List.take_replicate, Nat.min_eq_left (by omega)]
  unfold patch
  rw [List.append_assoc, List.take_append_of_le_length (by rw [List.length_take]; omega), List.take_take, Nat.min_self, h3]
 ·rw [← ha, hp]
  rw [Nat.pow_add, Nat.mod_mul] at he
  have h5 := Nat.div_add_mod X V2
  generalize 18446744073709551616 ^ a = W1 at *
  generalize 18446744073709551616 ^ sz = W2 at *
  generalize val 18446744073709551616 qs = Q at *
  generalize X / V2 = d at *
  generalize X % V2 = m at *
  generalize U2 / W1 % W2 = t at *
  generalize U2 % W1 = u at *
  have h6 : W1 * (V2 * d + m) = W1 * (t + W2 * r) := by rw [h5, hX]
  grind
theorem blocks_X_lt {U2 V2 r W1 W2 : Nat} (hr : r < V2) (hW : 0 < W2) : U2 / W1 % W2 + W2 * r < V2 * W2 := by
 have h1 := Nat.mod_lt (U2 / W1) hW
 have h2 := Nat.mul_le_mul_left W2 hr
 rw [Nat.mul_succ, Nat.mul_comm W2 V2] at h2
 omega
theorem wpList_copy_tn {P : Program} {w : World} {ops : Array Oper} {rest : List Oper} {o : Oper} {a : Act} {Q : Exit → Act → World → Prop} (hgd : o.guard = none) (d s : Operand) (dT sT : TypeId)
  (ho : o.op = .call { callee := .builtin .copy, args := #[d, s], argTypes := #[dT, sT] }) (elem : TypeId) (hu : P.underlying dT = some (.slice elem)) (hsz : (P.info? elem).map (·.size) = some 1)
  (dp sp : Option Addr) (dLen dCap sLen sCap : Nat) (hd : a.eval d = .slice dp dLen dCap) (hs : a.eval s = .slice sp sLen sCap)
  (g off : Nat) (cur : List Value) (t : TypeId) (hg : Blk w g t cur) (cs : List Value) (hn : cs.length = Nat.min sLen dLen)
  (hpos : 0 < cs.length → dp = some ⟨g, off, none⟩ ∧ ∃ ad, sp = some ad ∧ ∀ j v, cs[j]? = some v → w.cell? (ad.add j) = some v)
  (hfit : off + cs.length ≤ cur.length) (h1 : ∀ v ∈ cs, v.oneCell' = true)
  (h : ∀ w', Hid (Blk w' g t (splice cur off cs)) → Tn g w w' → wpList P ops Q rest (a.put o.dst (goInt cs.length)) w') :
  wpList P ops Q (o :: rest) a w := by
 by_cases h0 : cs.length = 0
 ·obtain rfl : cs = [] := List.eq_nil_of_length_eq_zero h0
  refine wpList_copy_nothing hgd d s dT sT ho elem hu hsz dp sp dLen dCap sLen sCap hd hs (by simpa using hn.symm) ?_
  exact h w (show Blk _ _ _ _ by simpa [splice] using hg) (Tn.refl _ _)
 ·obtain ⟨rfl, ad, rfl, hsrc⟩ := hpos (by omega)
  refine wpList_copy_own hgd d s dT sT ho elem hu hsz g off dLen dCap ad sLen sCap hd hs cur.toArray t hg cs hn hsrc (by simpa using hfit) h1 ?_
  exact h _ (show Blk _ _ _ _ by simpa [splice, Blk] using setRow_heap w g _ _ t _ hg) ⟨rfl, rfl, rfl, by simp [World.setRow], fun k _ hk => setRow_other w g k _ hk⟩
def BlockOut (w w' : World) (n : Nat) (U V : Nat) (e : Ending) : Prop :=
 ∃ qs rs g R cr, e = .returned (.tuple #[.slice (some ⟨g, 0, none⟩) qs.length qs.length, .slice R rs.length cr]) ∧ Dig 18446744073709551616 qs ∧ val 18446744073709551616 qs = U / V ∧ Num 18446744073709551616 rs (U % V) ∧ rs.length ≤ cr ∧ qs.length ≤ n ∧
  w.heap.size ≤ g ∧ Blk w' g 116 (u64s qs) ∧ Rd w' w'.heap.size R (u64s rs) ∧ Below w.heap.size w w'
end
end Go.Proofs.YtbcphifjcaobfaaGreatDoor
