/- The contract of zint's Int64. Conditions: at most 2^26 limbs. -/
import Derived.Test.YtanlejlmckdeiaaGreatPkZs16
import Derived.Test.YtanlejlmckdeiaaGreatPkZs17
import Derived.Test.YtanlejlmckdeiaaGreatPkZs25
namespace Go.Proofs.YtanlejlmckdeiaaGreat
open Go.RowKit

def in64 (z : Int) : Prop := -9223372036854775808 ≤ z ∧ z ≤ 9223372036854775807
instance (z : Int) : Decidable (in64 z) := inferInstanceAs (Decidable (_ ∧ _))
theorem len_two9 {xs : List Nat} (hd : Dig 4294967296 xs) : decide ((trimL xs).length ≤ 2) = decide (val 4294967296 xs < 18446744073709551616) := by
  have hn := Num.of_trim hd
  refine decide_eq_decide.2 ⟨fun h => ?_, fun h => ?_⟩
  · have h1 := hn.lt
    have h3 : 4294967296 ^ (trimL xs).length ≤ 4294967296 ^ 2 := Nat.pow_le_pow_right (by omega) h
    omega
  · rcases Nat.lt_or_ge 2 (trimL xs).length with h2 | h2
    · have h1 := hn.ge (by intro e; rw [e] at h2; simp at h2)
      have h3 : 4294967296 ^ 2 ≤ 4294967296 ^ ((trimL xs).length - 1) := Nat.pow_le_pow_right (by omega) (by omega)
      omega
    · exact h2
section
variable {w w' : World} {g : Bool} {A : Option Addr} {c K : Nat} {xs : List Nat} {z : Int}
/-- What Int64 answers. -/
def I64Out (w w' : World) (z : Int) (e : Ending) : Prop := e = .returned (.tuple #[.int .i64 (if in64 z then z else 0), .bool (decide (in64 z))]) ∧ Below w.heap.size w w'
set_option maxHeartbeats 1600000 in
theorem Zh.int64 (h : Zh w g A c xs z K) (hK : K ≤ 67108864) :
    Calls Tryz.prog 8 #[.agg #[.bool g, .slice A xs.length c]] w fun e w' => I64Out w w' z e := by
  have hl := h.hv.len
  have hs := h.sg
  have U1 : Hid (∀ W (_ : Below w.heap.size w W), Calls Tryz.prog 41 #[.slice A xs.length c] W fun e w' => e = .returned (.tuple #[.int .u64 ((if z.natAbs < 18446744073709551616 then z.natAbs else 0 : Nat) : Int), .bool (decide (z.natAbs < 18446744073709551616))]) ∧ Dr W w') := fun W hW => by
    have h9 := uint64_any A c xs W W.heap.size (h.next hW).hv.rd h.hv.dig h.hv.cap (by omega)
    have e1 := len_two9 h.hv.dig
    rw [h.hv.val_] at e1
    have e2 : u64Of xs = if z.natAbs < 18446744073709551616 then z.natAbs else 0 := by
      unfold u64Of
      rw [h.hv.val_]
      by_cases h8 : z.natAbs < 18446744073709551616
      · rw [if_pos h8, if_pos (of_decide_eq_true (e1.trans (decide_eq_true h8)))]
      · rw [if_neg h8, if_neg (of_decide_eq_false (e1.trans (decide_eq_false h8)))]
    rwa [e1, e2] at h9
  have b0 := blk_one w (.bool g) (.slice A xs.length c)
  clear h
  obtain ⟨n, hn⟩ : ∃ n, n = z.natAbs := ⟨_, rfl⟩
  rw [← hn] at U1 hs
  by_cases h64 : n < 18446744073709551616
  · rw [if_pos h64, decide_eq_true h64] at U1
    cases g
    · by_cases hb : n ≤ 9223372036854775807
      · have e1 : in64 z := by unfold in64; simp only [ivalN] at hs; simp at hs; omega
        have e2 : z = (n : Int) := hs.symm
        unfold I64Out
        rw [if_pos e1, decide_eq_true e1, e2]
        have t1 : decide ((9223372036854775807 : Int) < (n : Int)) = false := decide_eq_false (by omega)
        have t2 : IntKind.i64.wrap (n : Int) = (n : Int) := IntWalk.i64_in _ (by omega)
        clear hs hn e1 e2 h64
        go_enter Tryz.func8, Tryz.ntmps8
        go_wp2_with fail
        refine (U1.out _ (bel_one _ _)).mono ?_
        rintro e w1 ⟨rfl, hd⟩
        obtain ⟨nd, rfl⟩ := hd
        go_wp2
        go_ret2
        exact ⟨rfl, bdn (bel_one _ _) _⟩
      · have e1 : ¬ in64 z := by unfold in64; simp only [ivalN] at hs; simp at hs; omega
        unfold I64Out
        rw [if_neg e1, decide_eq_false e1]
        have t1 : decide ((9223372036854775807 : Int) < (n : Int)) = true := decide_eq_true (by omega)
        clear hs hn e1 h64
        go_enter Tryz.func8, Tryz.ntmps8
        go_wp2_with fail
        refine (U1.out _ (bel_one _ _)).mono ?_
        rintro e w1 ⟨rfl, hd⟩
        obtain ⟨nd, rfl⟩ := hd
        go_wp2
        go_ret2
        exact ⟨rfl, bdn (bel_one _ _) _⟩
    · by_cases hb : n ≤ 9223372036854775808
      · have e1 : in64 z := by unfold in64; simp only [ivalN] at hs; simp at hs; omega
        have e2 : z = -(n : Int) := hs.symm
        unfold I64Out
        rw [if_pos e1, decide_eq_true e1, e2]
        have t1 : decide ((n : Int) ≤ 9223372036854775808) = true := decide_eq_true (by omega)
        have t2 : wrap64 (-wrap64 (n : Int)) = -(n : Int) := by unfold wrap64; omega
        have T2 := Lib.hid t2
        clear hs hn e1 e2 h64 t2
        go_enter Tryz.func8, Tryz.ntmps8
        go_wp2_with fail
        refine (U1.out _ (bel_one _ _)).mono ?_
        rintro e w1 ⟨rfl, hd⟩
        obtain ⟨nd, rfl⟩ := hd
        go_wp2
        go_ret2
        exact ⟨by rw [← T2.out]; rfl, bdn (bel_one _ _) _⟩
      · have e1 : ¬ in64 z := by unfold in64; simp only [ivalN] at hs; simp at hs; omega
        unfold I64Out
        rw [if_neg e1, decide_eq_false e1]
        have t1 : decide ((n : Int) ≤ 9223372036854775808) = false := decide_eq_false (by omega)
        clear hs hn e1 h64
        go_enter Tryz.func8, Tryz.ntmps8
        go_wp2_with fail
        refine (U1.out _ (bel_one _ _)).mono ?_
        rintro e w1 ⟨rfl, hd⟩
        obtain ⟨nd, rfl⟩ := hd
        go_wp2
        go_ret2
        exact ⟨rfl, bdn (bel_one _ _) _⟩
  · rw [if_neg h64, decide_eq_false h64] at U1
    have e1 : ¬ in64 z := by unfold in64; omega
    unfold I64Out
    rw [if_neg e1, decide_eq_false e1]
    clear hs hn e1 h64
    go_enter Tryz.func8, Tryz.ntmps8
    go_wp2_with fail
    refine (U1.out _ (bel_one _ _)).mono ?_
    rintro e w1 ⟨rfl, hd⟩
    obtain ⟨nd, rfl⟩ := hd
    go_wp2
    go_ret2
    exact ⟨rfl, bdn (bel_one _ _) _⟩
end
end Go.Proofs.YtanlejlmckdeiaaGreat
