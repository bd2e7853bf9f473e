/- The contract of piecewise, given that of product for fewer words. The contract of the reference's Same on equal lists; numbers that are written out. No conditions. Plain numbers: a word by half a word, with the digit guessed by the upper halves (Knuth's way). No conditions but those of each. The contract of math/bits.Div64: by Knuth's way, half a word at a time. Conditions: hi below y. The contracts of Of and Len. The contract of shortQuotient. The contract of Div, over any contract of quotient. -/
import Derived.Test.YtbafiahmcfkboaaDoorPkHo22
import Derived.Deep.RegionHeld3
import Derived.Test.YtbafiahmcfkboaaDoorPkHo20
import Derived.Deep.QuietTactic
import Derived.BigQuiet
import Derived.Test.YtbafiahmcfkboaaDoorPkHo21
import Derived.Deep.CutBlock
import Derived.Deep.DeepCutAuto
namespace Go.Proofs.YtbafiahmcfkboaaDoor
section
open Go.RowKit

/-- A slice's place behind k cells. -/
def offA (A : Option Addr) (k : Nat) : Option Addr := A.map fun a => ⟨a.block, a.off + k, none⟩
theorem Rd.drop_ {w : World} {B : Nat} {A : Option Addr} {xs : List Nat} (h : Rd w B A (u64s xs)) (k : Nat) : Rd w B (offA A k) (u64s (xs.drop k)) := fun hn => by
  obtain ⟨b, off, e, hb, hc⟩ := h (by intro e; apply hn; unfold u64s at e ⊢; rw [List.map_drop, e]; simp)
  refine ⟨b, off + k, by rw [e]; rfl, hb, fun i v hv => ?_⟩
  rw [Nat.add_assoc]
  refine hc (k + i) v ?_
  unfold u64s at hv ⊢
  rw [List.map_drop, List.getElem?_drop] at hv
  exact hv
theorem prod_lt {b : Nat} {us vs : List Nat} (hd : Dig b us) (hd2 : Dig b vs) (hb : 0 < b) : val b us * val b vs < b ^ (us.length + vs.length) := by
  rw [Nat.pow_add]
  have h1 := val_lt b us hd
  have h2 := val_lt b vs hd2
  exact Nat.mul_lt_mul_of_lt_of_le h1 (Nat.le_of_lt h2) (Nat.pow_pos hb)
end
section
open Go.RowKit

end
section

end
section
open Go.RowKit

theorem int_u64 {a b : Int} (h : a = b) : Value.int .u64 a = Value.int .u64 b := by rw [h]
end
section
open Go.RowKit
end
section
open Go.RowKit

/-- What shortQuotient's row and rest are when the words from k on are divided. -/
def Shorted (ws : List Nat) (b k : Nat) (qs : List Nat) (r : Nat) : Prop :=
  qs.length = ws.length ∧ Dig 18446744073709551616 qs ∧ r < b ∧ val 18446744073709551616 (ws.drop k) = val 18446744073709551616 (qs.drop k) * b + r

theorem Shorted.start (ws : List Nat) (b : Nat) (hb : 0 < b) : Shorted ws b ws.length (List.replicate ws.length 0) 0 :=
  ⟨by simp, Dig.zeros_ (by omega) _, hb, by simp [val]⟩
theorem Shorted.step {ws qs : List Nat} {b k r : Nat} (h : Shorted ws b (k + 1) qs r) (hk : k < ws.length) (hw : ws[k] < 18446744073709551616) (hb : b < 18446744073709551616) :
    Shorted ws b k (qs.set k ((r * 18446744073709551616 + ws[k]) / b)) ((r * 18446744073709551616 + ws[k]) % b) := by
  obtain ⟨h1, h2, h3, h4⟩ := h
  have hq : (r * 18446744073709551616 + ws[k]) / b < 18446744073709551616 := by
    rw [Nat.div_lt_iff_lt_mul (by omega)]
    have : (r + 1) * 18446744073709551616 ≤ b * 18446744073709551616 := Nat.mul_le_mul_right _ h3
    omega
  refine ⟨by simpa using h1, h2.set_ _ _ hq, Nat.mod_lt _ (by omega), ?_⟩
  have e1 : ws.drop k = ws[k] :: ws.drop (k + 1) := List.drop_eq_getElem_cons hk
  have e2 : (qs.set k ((r * 18446744073709551616 + ws[k]) / b)).drop k = ((r * 18446744073709551616 + ws[k]) / b) :: qs.drop (k + 1) := by
    rw [List.drop_eq_getElem_cons (by simpa using (by omega : k < qs.length))]
    simp [List.drop_set]
  rw [e1, e2]
  simp only [val]
  rw [h4]
  have hd := Nat.div_add_mod (r * 18446744073709551616 + ws[k]) b
  generalize (r * 18446744073709551616 + ws[k]) / b = q at *
  generalize (r * 18446744073709551616 + ws[k]) % b = m at *
  rw [Nat.add_mul, Nat.mul_add, Nat.mul_assoc, Nat.mul_comm q b]
  generalize val 18446744073709551616 (qs.drop (k + 1)) * b = z at *
  omega
end
section
open Go.RowKit
end
end Go.Proofs.YtbafiahmcfkboaaDoor
