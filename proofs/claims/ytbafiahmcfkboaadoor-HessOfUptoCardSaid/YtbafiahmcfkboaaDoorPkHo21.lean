/- Rows of digits that are added to or taken from in place, digit by digit; what turned in memory. No conditions. The contracts of word, wide, narrow, Norm, Of. The contracts of order and Cmp. The library's bits functions at this translation, in the spelling that the walks want. Conditions: the arguments are words of their kinds. The contracts of adder, subtracter, scaler, multiplier and their closures; of Add64 and Sub64. The contracts of nat.Add, Sub and shortMul. Conditions: fewer limbs than any slice can have. The contract of addRow. Conditions: fewer words than any slice can have. -/
import Derived.Test.YtbafiahmcfkboaaDoorPkHo20
import Derived.RegionTactic
import Derived.Laws.CopyOwn
import Derived.Deep.QuietTactic
import Derived.BigQuiet
import Derived.Test.YtbafiahmcfkboaaDoorShelf
import Derived.Lib.ItoaNum
import Derived.Shelf.Spec.BitsCarry
import Derived.Deep.CutBlock
import Derived.Deep.DeepCutAuto
namespace Go.Proofs.YtbafiahmcfkboaaDoor
section
open Go.RowKit

/-- What a row is when k digits of it have grown by T in all, c being carried. -/
def Acc (b : Nat) (os : List Nat) (T k : Nat) (zs : List Nat) (c : Nat) : Prop :=
  Dig b zs ∧ zs.length = os.length ∧ val b zs + b ^ k * c = val b os + T ∧ ∀ j (h : j < zs.length) (h2 : j < os.length), k ≤ j → zs[j] = os[j]
theorem Acc.start {b : Nat} {os : List Nat} (h : Dig b os) : Acc b os 0 0 os 0 := ⟨h, rfl, by simp, fun _ _ _ _ => rfl⟩
theorem Acc.step {b : Nat} {os zs : List Nat} {T k c d r q : Nat} (h : Acc b os T k zs c) (hk : k < os.length) (hr : r < b) (e : r + b * q = os[k] + d + c) : Acc b os (T + b ^ k * d) (k + 1) (zs.set k r) q := by
  obtain ⟨h1, h2, h3, h4⟩ := h
  have hz : k < zs.length := by omega
  refine ⟨h1.set_ _ _ hr, by simpa using h2, ?_, fun j hj hj2 hkj => ?_⟩
  · have e1 := val_set b zs k r hz
    rw [h4 k hz hk (Nat.le_refl _)] at e1
    rw [Nat.pow_succ]
    have e2 : b ^ k * r + b ^ k * b * q = b ^ k * os[k] + b ^ k * d + b ^ k * c := by
      rw [Nat.mul_assoc, ← Nat.mul_add, ← Nat.mul_add, ← Nat.mul_add, e]
    omega
  · rw [List.getElem_set, if_neg (by omega)]
    exact h4 j (by simpa using hj) hj2 (by omega)
/-- What a row is when k digits of it have been lessened by T in all, c being borrowed. -/
def Dec (b : Nat) (os : List Nat) (T k : Nat) (zs : List Nat) (c : Nat) : Prop :=
  Dig b zs ∧ zs.length = os.length ∧ val b zs + T = val b os + b ^ k * c ∧ ∀ j (h : j < zs.length) (h2 : j < os.length), k ≤ j → zs[j] = os[j]
theorem Dec.start {b : Nat} {os : List Nat} (h : Dig b os) : Dec b os 0 0 os 0 := ⟨h, rfl, by simp, fun _ _ _ _ => rfl⟩
theorem Dec.step {b : Nat} {os zs : List Nat} {T k c d r q : Nat} (h : Dec b os T k zs c) (hk : k < os.length) (hr : r < b) (e : r + d + c = os[k] + b * q) : Dec b os (T + b ^ k * d) (k + 1) (zs.set k r) q := by
  obtain ⟨h1, h2, h3, h4⟩ := h
  have hz : k < zs.length := by omega
  refine ⟨h1.set_ _ _ hr, by simpa using h2, ?_, fun j hj hj2 hkj => ?_⟩
  · have e1 := val_set b zs k r hz
    rw [h4 k hz hk (Nat.le_refl _)] at e1
    rw [Nat.pow_succ]
    have e2 : b ^ k * r + b ^ k * d + b ^ k * c = b ^ k * os[k] + b ^ k * b * q := by
      rw [Nat.mul_assoc, ← Nat.mul_add, ← Nat.mul_add, ← Nat.mul_add, e]
    omega
  · rw [List.getElem_set, if_neg (by omega)]
    exact h4 j (by simpa using hj) hj2 (by omega)

/-- Among the blocks that are there, block g alone has turned; new ones may lie behind. -/
structure Tn9z (g : Nat) (w w' : World) : Prop where
  os : w'.os = w.os
  tape : w'.tape = w.tape
  output : w'.output = w.output
  size : w.heap.size ≤ w'.heap.size
  block : ∀ k, k < w.heap.size → k ≠ g → w'.heap[k]? = w.heap[k]?
theorem Tn9z.refl (g : Nat) (w : World) : Tn9z g w w := ⟨rfl, rfl, rfl, Nat.le_refl _, fun _ _ _ => rfl⟩
theorem Tn9z.trans {g : Nat} {a b c : World} (h : Tn9z g a b) (k : Tn9z g b c) : Tn9z g a c :=
  ⟨k.os.trans h.os, k.tape.trans h.tape, k.output.trans h.output, Nat.le_trans h.size k.size, fun i hi hg => (k.block i (Nat.lt_of_lt_of_le hi h.size) hg).trans (h.block i hi hg)⟩
theorem Tn9z.of_below {g B : Nat} {w w' : World} (h : Below B w w') (hB : w.heap.size ≤ B) : Tn9z g w w' := ⟨h.os, h.tape, h.output, h.size, fun k hk _ => h.block k (by omega)⟩
theorem Tn9z.drewN {g : Nat} {a w : World} (h : Tn9z g a w) (n : Nat) : Tn9z g a (w.drewN n) := ⟨h.os, h.tape, h.output, h.size, h.block⟩
theorem Tn9z.drew {g : Nat} {a w : World} (h : Tn9z g a w) : Tn9z g a w.drew := ⟨h.os, h.tape, h.output, h.size, h.block⟩
theorem Tn9z.setCell {g : Nat} {a w : World} (h : Tn9z g a w) (i : Nat) (u : Value) : Tn9z g a (w.setCell ⟨g, i, none⟩ u) :=
  h.trans ⟨rfl, rfl, rfl, by simp [World.setCell], fun k _ hk => Below.heap_setCell _ _ _ _ hk⟩
theorem Tn9z.below {g B : Nat} {w w' : World} (h : Tn9z g w w') (hB : B ≤ g) (hs : B ≤ w.heap.size) : Below B w w' := ⟨h.os, h.tape, h.output, h.size, fun k hk => h.block k (by omega) (by omega)⟩
theorem Blk.tn9z {w w' : World} {g h : Nat} {t : TypeId} {vs : List Value} (hb : Blk w g t vs) (hc : Tn9z h w w') (hne : g ≠ h) : Blk w' g t vs := (hc.block g hb.lt hne).trans hb
/-- A slice's place reads as these values, and lies in another block than g. -/
def Rx (w : World) (g : Nat) (A : Option Addr) (vs : List Value) : Prop :=
  vs ≠ [] → ∃ b off, A = some ⟨b, off, none⟩ ∧ b < w.heap.size ∧ b ≠ g ∧ ∀ k v, vs[k]? = some v → w.cell? ⟨b, off + k, none⟩ = some v
theorem Rx.tn9z {w w' : World} {g : Nat} {A : Option Addr} {vs : List Value} (h : Rx w g A vs) (k : Tn9z g w w') : Rx w' g A vs := fun hn => by
  obtain ⟨b, off, e, hb, hg, hc⟩ := h hn
  refine ⟨b, off, e, Nat.lt_of_lt_of_le hb k.size, hg, fun i v hv => ?_⟩
  rw [← hc i v hv]
  unfold World.cell?
  rw [k.block b hb hg]
theorem Rx.of_blk {w : World} {g b : Nat} {t : TypeId} {ys vs : List Value} (h : Blk w b t ys) (hg : b ≠ g) (off : Nat) (hv : ∀ k v, vs[k]? = some v → ys[off + k]? = some v) : Rx w g (some ⟨b, off, none⟩) vs := fun _ =>
  ⟨b, off, rfl, h.lt, hg, fun k v hk => (h.cell _).trans (hv k v hk)⟩
theorem Rx.rd {w : World} {g : Nat} {A : Option Addr} {vs : List Value} (h : Rx w g A vs) : Rd w w.heap.size A vs := fun hn => by
  obtain ⟨b, off, e, hb, _, hc⟩ := h hn
  exact ⟨b, off, e, hb, hc⟩
theorem Rx.keep {w w' : World} {g B : Nat} {A : Option Addr} {vs : List Value} (h : Rx w g A vs) (k : Below B w w') (hB : w.heap.size ≤ B) : Rx w' g A vs := h.tn9z (Tn9z.of_below k hB)

/-- A part of a list put in place of what stood there. -/
def patch (L : List Nat) (o : Nat) (zs : List Nat) : List Nat := L.take o ++ zs ++ L.drop (o + zs.length)
theorem patch_length {L : List Nat} {o : Nat} {zs : List Nat} (h : o + zs.length ≤ L.length) : (patch L o zs).length = L.length := by
  simp [patch]; omega
theorem patch_dig {b : Nat} {L : List Nat} {o : Nat} {zs : List Nat} (h : Dig b L) (k : Dig b zs) : Dig b (patch L o zs) := ((h.take_ _).append_ k).append_ (h.drop_ _)
theorem patch_val (b : Nat) {L : List Nat} {o : Nat} {zs : List Nat} (h : o + zs.length ≤ L.length) : val b (patch L o zs) + b ^ o * val b ((L.drop o).take zs.length) = val b L + b ^ o * val b zs := by
  have e1 : val b (patch L o zs) = val b (L.take o) + b ^ o * (val b zs + b ^ zs.length * val b (L.drop (o + zs.length))) := by
    unfold patch
    rw [List.append_assoc, val_append, val_append, List.length_take, Nat.min_eq_left (by omega)]
  have e2 : val b L = val b (L.take o) + b ^ o * (val b ((L.drop o).take zs.length) + b ^ zs.length * val b (L.drop (o + zs.length))) := by
    conv => lhs; rw [← List.take_append_drop o L, ← List.take_append_drop zs.length (L.drop o)]
    rw [val_append, val_append, List.length_take, Nat.min_eq_left (by omega), List.length_take, List.length_drop, Nat.min_eq_left (by omega), List.drop_drop]
  rw [e1, e2, Nat.mul_add, Nat.mul_add]
  omega
end
section
open Go.RowKit

theorem one_u32s (xs : List Nat) : ∀ v ∈ u32s xs, v.oneCell' = true := by
  intro v hv; obtain ⟨x, _, rfl⟩ := List.mem_map.1 hv; rfl
theorem or_shift (x y i : Nat) (hx : x < 2 ^ i) : y * 2 ^ i ||| x = x + 2 ^ i * y := by
  rw [Nat.mul_comm, ← Nat.two_pow_add_eq_or_of_lt hx]; omega
theorem u32s_set9z (xs : List Nat) (i v : Nat) : (u32s xs).set i (Value.int .u32 (v : Int)) = u32s (xs.set i v) := by simp [u32s, List.map_set]
theorem pack_odd {ys xs : List Nat} {j : Nat} (hk : 2 * j + 1 < xs.length) (hj : j < ys.length) (hv : val 18446744073709551616 ys = val 4294967296 (xs.take (2 * j + 1))) :
    val 18446744073709551616 (ys.set j (ys[j] + 4294967296 * xs[2 * j + 1])) = val 4294967296 (xs.take (2 * j + 1 + 1)) := by
  have h1 := val_set 18446744073709551616 ys j (ys[j] + 4294967296 * xs[2 * j + 1]) hj
  have h2 := val_take_succ 4294967296 xs (2 * j + 1) hk
  rw [h2, ← hv, Nat.pow_succ, Nat.pow_mul, show (4294967296 : Nat) ^ 2 = 18446744073709551616 from rfl, Nat.mul_assoc]
  rw [Nat.mul_add] at h1
  omega

/-- What wide's row holds behind k limbs. -/
def Packed (xs : List Nat) (k : Nat) (ys : List Nat) : Prop :=
  Dig 18446744073709551616 ys ∧ val 18446744073709551616 ys = val 4294967296 (xs.take k) ∧ (∀ j (h : j < ys.length), k ≤ 2 * j → ys[j] = 0) ∧ ∀ j (h : j < ys.length), k = 2 * j + 1 → ys[j] < 4294967296

theorem Packed.odd {xs ys : List Nat} {j : Nat} (h : Packed xs (2 * j + 1) ys) (hk : 2 * j + 1 < xs.length) (hj : j < ys.length) (hd : Dig 4294967296 xs) : Packed xs (2 * j + 1 + 1) (ys.set j (ys[j] + 4294967296 * xs[2 * j + 1])) := by
  have hx := hd.at_ (2 * j + 1) hk
  have hy := h.2.2.2 j hj rfl
  refine ⟨h.1.set_ _ _ (by omega), pack_odd hk hj h.2.1, fun i hi hki => ?_, fun i hi hki => by omega⟩
  rw [List.getElem_set]
  rw [if_neg (by omega)]
  exact h.2.2.1 i (by simpa using hi) (by omega)
theorem Packed.start (xs : List Nat) (N : Nat) : Packed xs 0 (List.replicate N 0) :=
  ⟨Dig.zeros_ (by omega) _, by rw [val_zeros]; rfl, fun j h _ => by simp, fun j h e => by omega⟩

/-- What narrow's row holds behind k words. -/
def Unpacked (ws : List Nat) (k : Nat) (zs : List Nat) : Prop :=
  Dig 4294967296 zs ∧ val 4294967296 zs = val 18446744073709551616 (ws.take k) ∧ ∀ j (h : j < zs.length), 2 * k ≤ j → zs[j] = 0
theorem Unpacked.start (ws : List Nat) (n : Nat) : Unpacked ws 0 (List.replicate n 0) :=
  ⟨Dig.zeros_ (by omega) _, by rw [val_zeros]; rfl, fun j h _ => by simp⟩
theorem Unpacked.step {ws zs : List Nat} {k : Nat} (h : Unpacked ws k zs) (hk : k < ws.length) (hz : 2 * k + 1 < zs.length) (hx : ws[k] < 18446744073709551616) :
    Unpacked ws (k + 1) ((zs.set (2 * k) (ws[k] % 4294967296)).set (2 * k + 1) (ws[k] / 4294967296)) := by
  refine ⟨(h.1.set_ _ _ (by omega)).set_ _ _ (by omega), ?_, fun i hi hki => ?_⟩
  · have h1 := val_set 4294967296 zs (2 * k) (ws[k] % 4294967296) (by omega)
    have h2 := val_set 4294967296 (zs.set (2 * k) (ws[k] % 4294967296)) (2 * k + 1) (ws[k] / 4294967296) (by simpa using hz)
    rw [h.2.2 (2 * k) (by omega) (by omega)] at h1
    rw [List.getElem_set, if_neg (by omega), h.2.2 (2 * k + 1) (by omega) (by omega)] at h2
    rw [val_take_succ _ _ _ hk, ← h.2.1]
    rw [Nat.pow_succ, Nat.pow_mul, show (4294967296 : Nat) ^ 2 = 18446744073709551616 from rfl] at h2
    rw [Nat.pow_mul, show (4294967296 : Nat) ^ 2 = 18446744073709551616 from rfl] at h1
    have e : 18446744073709551616 ^ k * ws[k] = 18446744073709551616 ^ k * (ws[k] % 4294967296) + 18446744073709551616 ^ k * 4294967296 * (ws[k] / 4294967296) := by
      rw [Nat.mul_assoc, ← Nat.mul_add, Nat.mod_add_div]
    omega
  · rw [List.getElem_set, if_neg (by omega), List.getElem_set, if_neg (by omega)]
    exact h.2.2 i (by simpa using hi) (by omega)
end
section
open Go.RowKit

/-- -1, 0 or 1. -/
def cmpN (a b : Nat) : Int := if a < b then -1 else if b < a then 1 else 0

theorem val_cmp_top (b : Nat) (xs ys : List Nat) (hx : Dig b xs) (hl : xs.length = ys.length) (j : Nat) (hj : j < xs.length) (hsame : ∀ i (h : i < xs.length), j < i → xs[i] = ys[i]'(by omega)) (hlt : xs[j] < ys[j]'(by omega)) : val b xs < val b ys := by
  induction xs generalizing ys j with
  | nil => simp at hj
  | cons x xs ih =>
    cases ys with
    | nil => simp at hl
    | cons y ys =>
      cases j with
      | zero =>
        have e : xs = ys := by
          apply List.ext_getElem (by simpa using hl)
          intro i h1 h2
          have := hsame (i + 1) (by simpa using h1) (by omega)
          simpa using this
        subst e
        simp only [val]
        simp at hlt
        omega
      | succ j =>
        have h1 := ih ys hx.tail_ (by simpa using hl) j (by simpa using hj) (fun i h hji => by
          have := hsame (i + 1) (by simpa using h) (by omega)
          simpa using this) (by simpa using hlt)
        have h2 := hx.head_
        simp only [val]
        have : b * (val b xs + 1) ≤ b * val b ys := Nat.mul_le_mul_left _ h1
        rw [Nat.mul_add] at this
        omega
end
section
open Go.RowKit

theorem mul64_any (x y : Nat) (w : World) (hx : x < 18446744073709551616) (hy : y < 18446744073709551616) : Calls Tryd.prog 51 #[.int .u64 (x : Int), .int .u64 (y : Int)] w fun e w' => e = .returned (.tuple #[.int .u64 ((x * y / 18446744073709551616 : Nat) : Int), .int .u64 ((x * y % 18446744073709551616 : Nat) : Int)]) ∧ w = w' :=
  (Go.Proofs.Tryd.bits_Mul64 x y hx hy w).mono fun _ _ ⟨he, hw⟩ => ⟨he, hw.symm⟩
end
section
open Go.RowKit
end
section
open Go.RowKit

theorem mk32s (n : Nat) (h : n + 1 ≤ 70368744177664) (W : World) : (Instr.makeSlice 49 (.int .i64 ((n : Int) + 1)) (.int .i64 ((n : Int) + 1))).run Tryd.prog W = .ok (.slice (some ⟨W.heap.size, 0, none⟩) (n + 1) (n + 1)) (W.alloc (.cells (List.replicate (n + 1) (Value.int .u32 0)).toArray 24)) := by
  have := mk32 (n + 1) h W
  rwa [show ((n + 1 : Nat) : Int) = (n : Int) + 1 from by omega] at this
theorem u32s_ne9z {xs : List Nat} {k : Nat} (h : k < xs.length) : u32s xs ≠ [] := by intro e; have := u32s_length xs; rw [e] at this; simp at this; omega
theorem Rd.at329z {w : World} {B : Nat} {A : Option Addr} {xs : List Nat} (h : Rd w B A (u32s xs)) {k : Nat} (hk : k < xs.length) : ∃ b off, A = some ⟨b, off, none⟩ ∧ b < B ∧ w.cell? ⟨b, off + k, none⟩ = some (.int .u32 (xs[k] : Nat)) := by
  obtain ⟨b, off, e, hb, hc⟩ := h (u32s_ne9z hk)
  exact ⟨b, off, e, hb, hc k _ (u32s_at hk)⟩
theorem Acc.done {b : Nat} {os zs : List Nat} {T k c : Nat} (h : Acc b os T k zs c) (hc : c = 0) : val b zs = val b os + T := by
  have := h.2.2.1; rw [hc] at this; simpa using this
end
section
open Go.RowKit

theorem Acc.at_ {b : Nat} {os zs : List Nat} {T k c : Nat} (h : Acc b os T k zs c) (hk : k < os.length) : ∃ h2 : k < zs.length, zs[k] = os[k] := ⟨by rw [h.2.1]; exact hk, h.2.2.2 k _ hk (Nat.le_refl _)⟩
theorem Dec.at_ {b : Nat} {os zs : List Nat} {T k c : Nat} (h : Dec b os T k zs c) (hk : k < os.length) : ∃ h2 : k < zs.length, zs[k] = os[k] := ⟨by rw [h.2.1]; exact hk, h.2.2.2 k _ hk (Nat.le_refl _)⟩
end
end Go.Proofs.YtbafiahmcfkboaaDoor
