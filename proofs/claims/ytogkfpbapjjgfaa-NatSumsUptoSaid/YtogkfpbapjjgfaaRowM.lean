/- Rows of digits that are added to or taken from in place, digit by digit; what turned in memory. No conditions. -/
import Derived.Test.YtogkfpbapjjgfaaTrim
namespace Go.Proofs.Ytogkfpbapjjgfaa
open Go.RowKit

/-- What a row is when k digits of it have grown by T in all, c being carried. -/
def Acc (b : Nat) (os : List Nat) (T k : Nat) (zs : List Nat) (c : Nat) : Prop :=
  Dig b zs ∧ zs.length = os.length ∧ val b zs + b ^ k * c = val b os + T ∧ ∀ j (h : j < zs.length) (h2 : j < os.length), k ≤ j → zs[j] = os[j]
theorem Acc.start {b : Nat} {os : List Nat} (h : Dig b os) : Acc b os 0 0 os 0 := ⟨h, rfl, by simp, fun _ _ _ _ => rfl⟩
theorem Acc.step {b : Nat} {os zs : List Nat} {T k c d r q : Nat} (h : Acc b os T k zs c) (hk : k < os.length) (hr : r < b) (e : r + b * q = os[k] + d + c) : Acc b os (T + b ^ k * d) (k + 1) (zs.set k r) q := by
  obtain ⟨h1, h2, h3, h4⟩ := h
  have hz : k < zs.length := by omega
  refine ⟨h1.set_ _ _ hr, by simpa using h2, ?_, fun j hj hj2 hkj => ?_⟩
  · have e1 := val_set b zs k r hz
    rw [h4 k hz hk (Nat.le_refl _)] at e1
    rw [Nat.pow_succ]
    have e2 : b ^ k * r + b ^ k * b * q = b ^ k * os[k] + b ^ k * d + b ^ k * c := by
      rw [Nat.mul_assoc, ← Nat.mul_add, ← Nat.mul_add, ← Nat.mul_add, e]
    omega
  · rw [List.getElem_set, if_neg (by omega)]
    exact h4 j (by simpa using hj) hj2 (by omega)
/-- What a row is when k digits of it have been lessened by T in all, c being borrowed. -/
def Dec (b : Nat) (os : List Nat) (T k : Nat) (zs : List Nat) (c : Nat) : Prop :=
  Dig b zs ∧ zs.length = os.length ∧ val b zs + T = val b os + b ^ k * c ∧ ∀ j (h : j < zs.length) (h2 : j < os.length), k ≤ j → zs[j] = os[j]
theorem Dec.start {b : Nat} {os : List Nat} (h : Dig b os) : Dec b os 0 0 os 0 := ⟨h, rfl, by simp, fun _ _ _ _ => rfl⟩
theorem Dec.step {b : Nat} {os zs : List Nat} {T k c d r q : Nat} (h : Dec b os T k zs c) (hk : k < os.length) (hr : r < b) (e : r + d + c = os[k] + b * q) : Dec b os (T + b ^ k * d) (k + 1) (zs.set k r) q := by
  obtain ⟨h1, h2, h3, h4⟩ := h
  have hz : k < zs.length := by omega
  refine ⟨h1.set_ _ _ hr, by simpa using h2, ?_, fun j hj hj2 hkj => ?_⟩
  · have e1 := val_set b zs k r hz
    rw [h4 k hz hk (Nat.le_refl _)] at e1
    rw [Nat.pow_succ]
    have e2 : b ^ k * r + b ^ k * d + b ^ k * c = b ^ k * os[k] + b ^ k * b * q := by
      rw [Nat.mul_assoc, ← Nat.mul_add, ← Nat.mul_add, ← Nat.mul_add, e]
    omega
  · rw [List.getElem_set, if_neg (by omega)]
    exact h4 j (by simpa using hj) hj2 (by omega)

/-- Among the blocks that are there, block g alone has turned; new ones may lie behind. -/
structure Tn (g : Nat) (w w' : World) : Prop where
  os : w'.os = w.os
  tape : w'.tape = w.tape
  output : w'.output = w.output
  size : w.heap.size ≤ w'.heap.size
  block : ∀ k, k < w.heap.size → k ≠ g → w'.heap[k]? = w.heap[k]?
theorem Tn.refl (g : Nat) (w : World) : Tn g w w := ⟨rfl, rfl, rfl, Nat.le_refl _, fun _ _ _ => rfl⟩
theorem Tn.trans {g : Nat} {a b c : World} (h : Tn g a b) (k : Tn g b c) : Tn g a c :=
  ⟨k.os.trans h.os, k.tape.trans h.tape, k.output.trans h.output, Nat.le_trans h.size k.size, fun i hi hg => (k.block i (Nat.lt_of_lt_of_le hi h.size) hg).trans (h.block i hi hg)⟩
theorem Tn.of_below {g B : Nat} {w w' : World} (h : Below B w w') (hB : w.heap.size ≤ B) : Tn g w w' := ⟨h.os, h.tape, h.output, h.size, fun k hk _ => h.block k (by omega)⟩
theorem Tn.of_ch {g : Nat} {w w' : World} (h : Ch g w w') : Tn g w w' := ⟨h.os, h.tape, h.output, Nat.le_of_eq h.size.symm, fun k _ hg => h.block k hg⟩
/-- A block behind all that was there at a may turn, too. -/
theorem Tn.chNew {g g2 : Nat} {a b c : World} (h : Tn g a b) (k : Ch g2 b c) (hg : a.heap.size ≤ g2) : Tn g a c :=
  ⟨k.os.trans h.os, k.tape.trans h.tape, k.output.trans h.output, by rw [k.size]; exact h.size, fun i hi hg2 => (k.block i (by omega)).trans (h.block i hi hg2)⟩
theorem Tn.drewN {g : Nat} {a w : World} (h : Tn g a w) (n : Nat) : Tn g a (w.drewN n) := ⟨h.os, h.tape, h.output, h.size, h.block⟩
theorem Tn.drew {g : Nat} {a w : World} (h : Tn g a w) : Tn g a w.drew := ⟨h.os, h.tape, h.output, h.size, h.block⟩
theorem Tn.setCell {g : Nat} {a w : World} (h : Tn g a w) (i : Nat) (u : Value) : Tn g a (w.setCell ⟨g, i, none⟩ u) :=
  h.trans ⟨rfl, rfl, rfl, by simp [World.setCell], fun k _ hk => Below.heap_setCell _ _ _ _ hk⟩
theorem Tn.below {g B : Nat} {w w' : World} (h : Tn g w w') (hB : B ≤ g) (hs : B ≤ w.heap.size) : Below B w w' := ⟨h.os, h.tape, h.output, h.size, fun k hk => h.block k (by omega) (by omega)⟩
theorem Blk.tn {w w' : World} {g h : Nat} {t : TypeId} {vs : List Value} (hb : Blk w g t vs) (hc : Tn h w w') (hne : g ≠ h) : Blk w' g t vs := (hc.block g hb.lt hne).trans hb
theorem Tn.belowAll {g B : Nat} {w w1 w' : World} (h : Below B w w1) (k : Tn g w1 w') (hB : B ≤ g) (hs : B ≤ w1.heap.size) : Below B w w' := h.trans (k.below hB hs)

/-- A slice's place reads as these values, and lies in another block than g. -/
def Rx (w : World) (g : Nat) (A : Option Addr) (vs : List Value) : Prop :=
  vs ≠ [] → ∃ b off, A = some ⟨b, off, none⟩ ∧ b < w.heap.size ∧ b ≠ g ∧ ∀ k v, vs[k]? = some v → w.cell? ⟨b, off + k, none⟩ = some v
theorem Rd.rx {w : World} {B g : Nat} {A : Option Addr} {vs : List Value} (h : Rd w B A vs) (hB : B ≤ g) (hs : B ≤ w.heap.size) : Rx w g A vs := fun hn => by
  obtain ⟨b, off, e, hb, hc⟩ := h hn
  exact ⟨b, off, e, by omega, by omega, hc⟩
theorem Rx.tn {w w' : World} {g : Nat} {A : Option Addr} {vs : List Value} (h : Rx w g A vs) (k : Tn g w w') : Rx w' g A vs := fun hn => by
  obtain ⟨b, off, e, hb, hg, hc⟩ := h hn
  refine ⟨b, off, e, Nat.lt_of_lt_of_le hb k.size, hg, fun i v hv => ?_⟩
  rw [← hc i v hv]
  unfold World.cell?
  rw [k.block b hb hg]
theorem Rx.of_blk {w : World} {g b : Nat} {t : TypeId} {ys vs : List Value} (h : Blk w b t ys) (hg : b ≠ g) (off : Nat) (hv : ∀ k v, vs[k]? = some v → ys[off + k]? = some v) : Rx w g (some ⟨b, off, none⟩) vs := fun _ =>
  ⟨b, off, rfl, h.lt, hg, fun k v hk => (h.cell _).trans (hv k v hk)⟩
theorem Rx.rd {w : World} {g : Nat} {A : Option Addr} {vs : List Value} (h : Rx w g A vs) : Rd w w.heap.size A vs := fun hn => by
  obtain ⟨b, off, e, hb, _, hc⟩ := h hn
  exact ⟨b, off, e, hb, hc⟩
theorem Rx.keep {w w' : World} {g B : Nat} {A : Option Addr} {vs : List Value} (h : Rx w g A vs) (k : Below B w w') (hB : w.heap.size ≤ B) : Rx w' g A vs := h.tn (Tn.of_below k hB)

/-- A part of a list put in place of what stood there. -/
def patch (L : List Nat) (o : Nat) (zs : List Nat) : List Nat := L.take o ++ zs ++ L.drop (o + zs.length)
theorem patch_length {L : List Nat} {o : Nat} {zs : List Nat} (h : o + zs.length ≤ L.length) : (patch L o zs).length = L.length := by
  simp [patch]; omega
theorem patch_dig {b : Nat} {L : List Nat} {o : Nat} {zs : List Nat} (h : Dig b L) (k : Dig b zs) : Dig b (patch L o zs) := ((h.take_ _).append_ k).append_ (h.drop_ _)
theorem patch_self {L : List Nat} {o n : Nat} (h : o + n ≤ L.length) : patch L o ((L.drop o).take n) = L := by
  unfold patch
  rw [List.length_take, List.length_drop, show o + min n (L.length - o) = o + n from by omega, List.append_assoc, ← List.drop_drop, List.take_append_drop, List.take_append_drop]
theorem patch_set {L : List Nat} {o k v : Nat} {zs : List Nat} (hk : k < zs.length) (h : o + zs.length ≤ L.length) : (patch L o zs).set (o + k) v = patch L o (zs.set k v) := by
  unfold patch
  rw [List.length_set, List.append_assoc, List.set_append_right _ _ (by simp; omega), List.length_take, Nat.min_eq_left (by omega), show o + k - o = k from by omega, List.set_append_left _ _ hk, List.append_assoc]
theorem patch_get {L : List Nat} {o k : Nat} {zs : List Nat} (hk : k < zs.length) (h : o + zs.length ≤ L.length) : (patch L o zs)[o + k]'(by rw [patch_length h]; omega) = zs[k] := by
  unfold patch
  simp only [List.append_assoc]
  rw [List.getElem_append_right (by simp; omega), List.getElem_append_left (by simp; omega)]
  congr 1
  simp; omega
theorem patch_val (b : Nat) {L : List Nat} {o : Nat} {zs : List Nat} (h : o + zs.length ≤ L.length) : val b (patch L o zs) + b ^ o * val b ((L.drop o).take zs.length) = val b L + b ^ o * val b zs := by
  have e1 : val b (patch L o zs) = val b (L.take o) + b ^ o * (val b zs + b ^ zs.length * val b (L.drop (o + zs.length))) := by
    unfold patch
    rw [List.append_assoc, val_append, val_append, List.length_take, Nat.min_eq_left (by omega)]
  have e2 : val b L = val b (L.take o) + b ^ o * (val b ((L.drop o).take zs.length) + b ^ zs.length * val b (L.drop (o + zs.length))) := by
    conv => lhs; rw [← List.take_append_drop o L, ← List.take_append_drop zs.length (L.drop o)]
    rw [val_append, val_append, List.length_take, Nat.min_eq_left (by omega), List.length_take, List.length_drop, Nat.min_eq_left (by omega), List.drop_drop]
  rw [e1, e2, Nat.mul_add, Nat.mul_add]
  omega
end Go.Proofs.Ytogkfpbapjjgfaa
