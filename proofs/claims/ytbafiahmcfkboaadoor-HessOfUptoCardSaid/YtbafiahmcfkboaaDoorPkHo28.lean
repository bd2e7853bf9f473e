/- The contract of blockQuotient. Conditions: words; the divisor's top bit; 200 words of a divisor or more, at most 2^27. The contract of quotient. Conditions: a divisor of at most 2^27 words. The contracts of nat's operations on numbers that are held. Conditions: at most 2^26 limbs. Plain numbers: a sign and a size as an integer; quotients by sizes; the nearest. No conditions. A drawn region whose head only reads and draws, in whatever order, and whose tail stands in one order: one walk serves. No conditions. -/
import Derived.Test.YtbafiahmcfkboaaDoorPkHo27
import Derived.Test.YtbafiahmcfkboaaDoorPkHo26
import Derived.Test.YtbafiahmcfkboaaDoorPkHo23
import Derived.Test.YtbafiahmcfkboaaDoorPkHo25
import Derived.Test.YtbafiahmcfkboaaDoorPkHo21
import Derived.Test.YtbafiahmcfkboaaDoorPkHo20
import Derived.StillTail
import Derived.StillTailTactics
import Derived.Deep.Quiet
import Derived.Deep.QuietTactic
import Derived.BigQuiet
namespace Go.Proofs.YtbafiahmcfkboaaDoor
section
open Go.RowKit
end
section
open Go.RowKit

theorem Words.res {w w' : World} {zs : List Nat} {g : Nat} (hg : w.heap.size ≤ g) (hb : Blk w' g 54 (u64s zs)) (hl : zs.length ≤ 281474976710656) : Res9z w' w.heap.size 54 (some ⟨g, 0, none⟩) zs.length (u64s zs) := by
  have e : (u64s zs).length = zs.length := u64s_length zs
  refine ⟨Nat.le_of_eq e, hl, fun _ => ⟨g, [], rfl, hg, ?_, ?_⟩⟩
  · rw [List.append_nil]; exact hb
  · rw [List.length_nil, Nat.add_zero]; exact e
end
section
open Go.RowKit

/-- A slice of limbs that is held. -/
structure Hd (w : World) (A : Option Addr) (c : Nat) (xs : List Nat) (n N : Nat) : Prop where
  num : Num 4294967296 xs n
  rd : Rd w w.heap.size A (u32s xs)
  cap : xs.length ≤ c
  len : xs.length ≤ N
theorem Hd.next {w w' : World} {A : Option Addr} {c n N : Nat} {xs : List Nat} (h : Hd w A c xs n N) (hb : Below w.heap.size w w') : Hd w' A c xs n N := ⟨h.num, (h.rd.below hb).mono hb.size, h.cap, h.len⟩
theorem num32_len {zs : List Nat} {n m N : Nat} (h : Num 4294967296 zs n) (hle : n ≤ m) (hm : m < 4294967296 ^ N) : zs.length ≤ N := by
  have := trimL_len_le (b := 4294967296) (N := N) (by omega) h.1 (by rw [h.2.2]; omega)
  rwa [h.2.1] at this
theorem Hd.of {w : World} {B : Nat} {A : Option Addr} {c n m N : Nat} {xs : List Nat} (h : Num 4294967296 xs n) (hr : Res9z w B 24 A c (u32s xs)) (hle : n ≤ m) (hm : m < 4294967296 ^ N) : Hd w A c xs n N :=
  ⟨h, hr.rd, by have := hr.1; rwa [u32s_length] at this, num32_len h hle hm⟩
/-- A number that is held, and what it is below. -/
structure Hv (w : World) (A : Option Addr) (c : Nat) (xs : List Nat) (n K : Nat) : Prop where
  dig : Dig 4294967296 xs
  val_ : val 4294967296 xs = n
  rd : Rd w w.heap.size A (u32s xs)
  cap : xs.length ≤ c
  len : xs.length ≤ K
section
variable {w w' : World} {A A2 : Option Addr} {c c2 n k K J : Nat} {xs ys : List Nat}
theorem Hv.next (h : Hv w A c xs n K) (hb : Below w.heap.size w w') : Hv w' A c xs n K := ⟨h.dig, h.val_, (h.rd.below hb).mono hb.size, h.cap, h.len⟩
theorem Hv.lt (h : Hv w A c xs n K) : n < 4294967296 ^ K := by
  rw [← h.val_]
  exact Nat.lt_of_lt_of_le (val_lt _ _ h.dig) (Nat.pow_le_pow_right (by omega) h.len)
theorem Hv.of {B : Nat} (h : Num 4294967296 xs n) (hr : Res9z w B 24 A c (u32s xs)) (hm : n < 4294967296 ^ K) : Hv w A c xs n K :=
  ⟨h.1, h.2.2, hr.rd, by have := hr.1; rwa [u32s_length] at this, num32_len h (Nat.le_refl _) hm⟩
theorem sum_lt_pow9 {b i j : Nat} (hb : 2 ≤ b) (hn : n < b ^ i) (hk : k < b ^ j) : n + k < b ^ (max i j + 1) := by
  have h1 : b ^ i ≤ b ^ max i j := Nat.pow_le_pow_right (by omega) (by omega)
  have h2 : b ^ j ≤ b ^ max i j := Nat.pow_le_pow_right (by omega) (by omega)
  have h3 : b ^ max i j * 2 ≤ b ^ max i j * b := Nat.mul_le_mul_left _ hb
  rw [Nat.pow_succ]
  omega
end
end
section
/-- A sign and a size, as an integer. -/
def ivalN (g : Bool) (n : Nat) : Int := if g then -(n : Int) else n
def isNeg (z : Int) : Bool := decide (z < 0)
theorem isNeg_ival (g : Bool) (m : Nat) : isNeg (ivalN g m) = (g && decide (0 < m)) := by
  cases g <;> simp [ivalN, isNeg]
theorem abs_ival (g : Bool) (m : Nat) : (ivalN g m).natAbs = m := by
  cases g <;> simp [ivalN]
theorem ival_abs (z : Int) : ivalN (isNeg z) z.natAbs = z := by
  unfold ivalN isNeg
  by_cases h : z < 0 <;> simp [h] <;> omega
theorem ival_false (n : Nat) : ivalN false n = n := rfl
theorem ival_true (n : Nat) : ivalN true n = -(n : Int) := rfl
theorem neg_ival (g : Bool) (m : Nat) : -ivalN g m = ivalN (!g) m := by
  cases g <;> simp [ivalN]
theorem eu_of {a b q r : Int} (h : a = b * q + r) (h0 : 0 ≤ r) (h1 : r < b.natAbs) : a / b = q ∧ a % b = r := by
  have hb : b ≠ 0 := by intro e; subst e; simp at h1; omega
  have e1 : a % b = r := by
    rw [h, Int.mul_add_emod_self_left]
    rcases Int.natAbs_eq b with e | e
    · rw [e]; exact Int.emod_eq_of_lt h0 h1
    · rw [e, Int.emod_neg]; exact Int.emod_eq_of_lt h0 h1
  refine ⟨?_, e1⟩
  have h2 := Int.mul_ediv_add_emod a b
  rw [e1] at h2
  have h3 : b * (a / b) = b * q := by omega
  exact Int.eq_of_mul_eq_mul_left hb h3
theorem emod_lt_abs' (a : Int) {b : Int} (hb : b ≠ 0) : a % b < b.natAbs := by
  rcases Int.lt_or_gt_of_ne hb with h | h
  · have := Int.emod_lt_of_pos a (show 0 < -b by omega)
    rw [Int.emod_neg] at this
    omega
  · have := Int.emod_lt_of_pos a h
    omega
end
section
open Go

/-- Whatever order the head comes up in; L holds behind it. -/
def HeadQ (P : Program) (md : Region.Mode) (ops : Array Oper) (C : World → Prop) (n : Nat) (L : Array Bool → Act → Prop) : Nat → Array Bool → Act → Prop
  | 0, ls, a => L ls a
  | f + 1, ls, a => Region.ready md ops ls ≠ [] ∧ ∀ i ∈ Region.ready md ops ls, i < n ∧ qOp P ops C i (HeadQ P md ops C n L f (ls.setIfInBounds i true)) a

section
variable {P : Program} {md : Region.Mode} {ops : Array Oper} {C : World → Prop} {n : Nat}

theorem HeadQ.any {g : Nat} {L : Array Bool → Act → Prop} {Q : Exit → Act → World → Prop} (hL : ∀ ls a W, C W → L ls a → wpAny P md ops Q g ls a W) :
    ∀ f ls a W, C W → HeadQ P md ops C n L f ls a → wpAny P md ops Q (f + g) ls a W
  | 0, ls, a, W, hW, h => by rw [Nat.zero_add]; exact hL ls a W hW h
  | f + 1, ls, a, W, hW, h => by
    rw [show f + 1 + g = (f + g) + 1 from by omega]
    exact ⟨fun h0 => absurd h0 h.1, fun i hi => wpOp_of_qOp hW (fun a' W' hW' h' => HeadQ.any hL f _ a' W' hW' h') (h.2 i hi).2⟩

theorem HeadQ.first {i : Nat} {o : Oper} {v : Value} {L : Array Bool → Act → Prop} (ho : ops[i]? = some o) (hsel : Region.noSelect ops = true)
    (hs : Region.sinkB md ops n = true) (hc : Region.chainB md ops n = true) (hn : n < ops.size) (hin : i < n) (hend : ∀ ls a, L ls a → ∀ j ∈ Region.ready md ops ls, n ≤ j) :
    ∀ f ls a, HeadInv md ops n ls → (∀ j oj, ops[j]? = some oj → j ≠ i → ls.getD j true = false → (∀ e ∈ oj.after, Region.binds md e = true → e.on ≠ i) → o.apart ops oj = true) →
      i ∈ Region.ready md ops ls → YieldsIn P ops C o v a → HeadQ P md ops C n L f (ls.setIfInBounds i true) (a.put o.dst v) → HeadQ P md ops C n L (f + 1) ls a := by
  intro f
  induction f with
  | zero =>
    intro ls a inv _ hr hy H
    have hun := (mem_ready.1 hr).1
    refine ⟨fun h => (by rw [h] at hr; cases hr), fun j hj => ?_⟩
    have hjn : j < n := (Nat.lt_or_ge j n).resolve_right fun h => absurd hj (tail_waits hs hc hn inv _ i rfl hin hun j h)
    refine ⟨hjn, ?_⟩
    by_cases hji : j = i
    · subst hji; exact hy.qOp ho H
    · exact absurd (hend _ _ H j (ready_mono hj hji)) (by omega)
  | succ f ih =>
    intro ls a inv hfree hr hy H
    have hun := (mem_ready.1 hr).1
    refine ⟨fun h => (by rw [h] at hr; cases hr), fun j hj => ?_⟩
    have hjn : j < n := (Nat.lt_or_ge j n).resolve_right fun h => absurd hj (tail_waits hs hc hn inv _ i rfl hin hun j h)
    refine ⟨hjn, ?_⟩
    by_cases hji : j = i
    · subst hji; exact hy.qOp ho H
    · have h1 := (H.2 j (ready_mono hj hji)).2
      obtain ⟨hjun, oj, hoj, hall⟩ := mem_ready.1 hj
      have hno : ∀ e ∈ oj.after, Region.binds md e = true → e.on ≠ i := fun e he hb heq => by
        have h2 := hall e he hb
        rw [heq, getD_both hun] at h2
        cases h2
      have h2 := qOp_put hoj (hfree j oj hoj hji hjun hno) (fun cs b => Region.noSelect_spec hsel i o cs b ho) (fun cs b => Region.noSelect_spec hsel j oj cs b hoj) hy h1
      refine qOp_mono (fun a' h3 => ih (ls.setIfInBounds j true) a' (inv.set hj hjn) (fun k ok hk hki hku hkn => hfree k ok hk hki ?_ hkn) (ready_mono hr (Ne.symm hji)) h3.1 ?_) h2
      · by_cases hjk : j = k
        · subst hjk; exact hjun
        · rw [getD_set_ne true hjk] at hku; exact hku
      · rw [Array.setIfInBounds_comm _ _ hji]; exact h3.2

end
end
end Go.Proofs.YtbafiahmcfkboaaDoor
