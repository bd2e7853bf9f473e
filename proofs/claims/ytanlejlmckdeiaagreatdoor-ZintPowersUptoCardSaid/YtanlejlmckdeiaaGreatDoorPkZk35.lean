/- The contract of the reference's Euclid on integers. Conditions: at most 2^26 - 1 limbs; the divisor is not 0. -/
import Derived.Test.YtanlejlmckdeiaaGreatDoorPkZk25
import Derived.Test.YtanlejlmckdeiaaGreatDoorPkZk30
import Derived.Test.YtanlejlmckdeiaaGreatDoorPkZk34
namespace Go.Proofs.YtanlejlmckdeiaaGreatDoor
open Go.RowKit

theorem Vr.other4 {B g h k K : Nat} {X : World} {z : Int} {x1 y1 x2 y2 u1 u2 u3 u4 : Value} (v : Vr B X k z K) (hg : Blk X g 28 [x1, y1]) (hh : Blk X h 28 [x2, y2]) (hne : h ≠ g) (h1 : k ≠ g) (h2 : k ≠ h) :
    Vr B ((((X.setCell ⟨g, 0, none⟩ u1).setCell ⟨g, 1, none⟩ u2).setCell ⟨h, 0, none⟩ u3).setCell ⟨h, 1, none⟩ u4) k z K :=
  (v.other hg h1 _ _).other ((hh.far (p := ⟨g, 0, none⟩) hne u1).far (p := ⟨g, 1, none⟩) hne u2) h2 _ _
/-- What a call answers that tells two integers. -/
def ZZ (w w' : World) (q r : Int) (e : Ending) : Prop := ∃ qs rs A1 c1 A3 c3, e = .returned (.tuple #[.agg #[.bool (isNeg q), .slice A1 qs.length c1], .agg #[.bool (isNeg r), .slice A3 rs.length c3]]) ∧ Num 4294967296 qs q.natAbs ∧ Num 4294967296 rs r.natAbs ∧ Res w' w.heap.size 61 A1 c1 (u32s qs) ∧ Res w' w.heap.size 61 A3 c3 (u32s rs) ∧ Below w.heap.size w w'
theorem zz_ret {fn : Func} {a : Act} {w W : World} {p q : Tmp} {g g2 K J : Nat} {Q R : Int} (k : Below w.heap.size w W) (v : Vr w.heap.size W g Q K) (v2 : Vr w.heap.size W g2 R J)
    (hres0 : fn.results = #[.cell p 28, .cell q 28]) (hp : a.tmps.getD p undef = .pointer (some ⟨g, 0, none⟩)) (hp2 : a.tmps.getD q undef = .pointer (some ⟨g2, 0, none⟩)) (hd : a.defers = []) :
    bodyPost Tryz.prog fn (fun e w' => ZZ w w' Q R e) .ret a W := by
  obtain ⟨A1, c1, qs, b1, n1, r1, l1⟩ := v
  obtain ⟨A3, c3, rs, b3, n3, r3, l3⟩ := v2
  exact bodyPost_ret (results_zz hres0 hp hp2 b1 b3) hd ⟨qs, rs, A1, c1, A3, c3, rfl, n1, n3, r1, r3, k⟩

/-- Where the reference's Euclid stands: its arguments, its results' cells, quotient and remainder as they are by now. -/
def EuS (w : World) (z y X Y : Int) (K J g8 : Nat) (W : World) : Prop :=
  Vr w.heap.size W w.heap.size z K ∧ Vr w.heap.size W (w.heap.size + 1) y J ∧ Blk W (w.heap.size + 2) 28 [.bool false, .slice none 0 0] ∧ Blk W (w.heap.size + 3) 28 [.bool false, .slice none 0 0] ∧
  Vr w.heap.size W g8 X K ∧ Vr w.heap.size W (g8 + 1) Y J ∧ w.heap.size + 3 < g8 ∧ Below w.heap.size w W
def EuA (w : World) (z y : Int) (K J : Nat) (v4 v5 : Value) (W : World) : Prop := v4 = .pointer (some ⟨w.heap.size + 2, 0, none⟩) ∧ v5 = .pointer (some ⟨w.heap.size + 3, 0, none⟩) ∧ 
  Vr w.heap.size W w.heap.size z K ∧ Vr w.heap.size W (w.heap.size + 1) y J ∧ Blk W (w.heap.size + 2) 28 [.bool false, .slice none 0 0] ∧ Blk W (w.heap.size + 3) 28 [.bool false, .slice none 0 0] ∧ Below w.heap.size w W
theorem eu_start {z y : Int} (hz : 0 ≤ z) : z / (y.natAbs : Int) = ((z.natAbs / y.natAbs : Nat) : Int) ∧ z % (y.natAbs : Int) = ((z.natAbs % y.natAbs : Nat) : Int) := by
  obtain ⟨n, rfl⟩ := Int.eq_ofNat_of_zero_le hz
  exact ⟨by rw [Int.natAbs_natCast, Int.natCast_ediv], by rw [Int.natAbs_natCast, Int.natCast_emod]⟩
theorem eu_neg {z y : Int} (hz : z < 0) (hy : y ≠ 0) : z / (y.natAbs : Int) = (if 0 < z.natAbs % y.natAbs then -((z.natAbs / y.natAbs : Nat) : Int) - 1 else -((z.natAbs / y.natAbs : Nat) : Int)) ∧ z % (y.natAbs : Int) = (if 0 < z.natAbs % y.natAbs then -((z.natAbs % y.natAbs : Nat) : Int) + (y.natAbs : Int) else -((z.natAbs % y.natAbs : Nat) : Int)) := by
  have h1 := Nat.div_add_mod z.natAbs y.natAbs
  have h2 := Nat.mod_lt z.natAbs (show 0 < y.natAbs by omega)
  have e : z = (y.natAbs : Int) * -((z.natAbs / y.natAbs : Nat) : Int) + -((z.natAbs % y.natAbs : Nat) : Int) := by
    rw [Int.mul_neg, ← Int.natCast_mul, ← Int.neg_add, ← Int.natCast_add, h1]; omega
  split
  · refine eu_of (a := z) (b := (y.natAbs : Int)) ?_ (by omega) (by omega)
    rw [Int.mul_sub, Int.mul_one]; omega
  · refine eu_of (a := z) (b := (y.natAbs : Int)) ?_ (by omega) (by omega)
    exact e
theorem eu_last {z y : Int} : z / y = (if y < 0 then -(z / (y.natAbs : Int)) else z / (y.natAbs : Int)) ∧ z % y = z % (y.natAbs : Int) := by
  by_cases h : y < 0
  · rw [if_pos h, show (y.natAbs : Int) = -y by omega, Int.ediv_neg, Int.neg_neg, Int.emod_neg]; exact ⟨rfl, rfl⟩
  · rw [if_neg h, show (y.natAbs : Int) = y by omega]; exact ⟨rfl, rfl⟩
theorem EuS.next {w wa wb : World} {z y X Y : Int} {K J g8 : Nat} (s : EuS w z y X Y K J g8 wa) (h : Below wa.heap.size wa wb) : EuS w z y X Y K J g8 wb := by
  obtain ⟨a, b, c, d, e, f, o, k⟩ := s
  exact ⟨a.next h, b.next h, c.below h c.lt, d.below h d.lt, e.next h, f.next h, o, bst k h (Nat.le_refl _)⟩
theorem Vr.other_ {B g k K : Nat} {X : World} {z : Int} {x1 y1 u1 u2 : Value} (v : Vr B X k z K) (hg : Blk X g 28 [x1, y1]) (h1 : k ≠ g) : Vr B ((X.setCell ⟨g, 0, none⟩ u1).setCell ⟨g, 1, none⟩ u2) k z K := v.other hg h1 _ _
theorem far2 {g k : Nat} {X : World} {t : TypeId} {vs : List Value} {u1 u2 : Value} (hb : Blk X k t vs) (h1 : k ≠ g) : Blk ((X.setCell ⟨g, 0, none⟩ u1).setCell ⟨g, 1, none⟩ u2) k t vs := (hb.far (p := ⟨g, 0, none⟩) h1 _).far (p := ⟨g, 1, none⟩) h1 _
theorem isNeg_cast (n : Nat) : isNeg (n : Int) = false := decide_eq_false (by omega)
section
variable {w : World} {g g2 : Bool} {A A2 : Option Addr} {c c2 K J : Nat} {xs ys : List Nat} {z y : Int}





end
end Go.Proofs.YtanlejlmckdeiaaGreatDoor
