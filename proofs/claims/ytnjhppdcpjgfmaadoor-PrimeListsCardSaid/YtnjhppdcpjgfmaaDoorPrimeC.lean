/- The contracts of prime's Is and isSquare, and of inverse, root, Quo, Inv, Sqrt at the document's examples. Conditions: as each states; bases reads 2, 7, 61. -/
import Derived.Test.YtnjhppdcpjgfmaaDoorPrimeB
import Derived.Deep.CutBlock
import Derived.RegionTactic
import Derived.Deep.QuietTactic
import Derived.BigQuiet
import Derived.WalkMore
import Derived.Deep.DeepCutAuto
namespace Go.Proofs.YtnjhppdcpjgfmaaDoor
open Go.RowKit

/-- What Is answers; n - 1 is d 2^s where n is odd and above 3. -/
def isN (n d s : Nat) : Bool := if n < 4 then decide (1 < n) else if n % 2 = 1 then passAll n d s else false

set_option maxHeartbeats 800000 in
theorem is_any (n d s : Nat) (hn : n < 4294967296) (h : 4 ≤ n → n % 2 = 1 → n - 1 = d * 2 ^ s ∧ d % 2 = 1 ∧ s ≤ 32) (w : World) (hw : Bases w) :
    Calls Tryd.prog 18 #[.int .u32 (n : Int)] w fun e w' => e = .returned (.bool (isN n d s)) ∧ w' = w := by
  have e1 : isN n d s = if n < 4 then decide (1 < n) else if n % 2 = 1 then passAll n d s else false := rfl
  by_cases h4 : n < 4
  · rw [if_pos h4] at e1
    have E1 := Lib.hid e1
    clear e1 h
    go_enter Tryd.func18, Tryd.ntmps18
    go_wp2
    go_ret
    refine ⟨?_, rfl⟩
    rw [E1.out]
    exact congrArg (fun b => Ending.returned (Value.bool b)) (decide_eq_decide.2 (by show (1 : Int) < (n : Int) ↔ 1 < n; omega))
  · rw [if_neg h4] at e1
    by_cases h2 : n % 2 = 1
    · obtain ⟨h5, h6, h7⟩ := h (by omega) h2
      rw [if_pos h2] at e1
      have hp := fun W hW => passes_any n d s hn (by omega) h6 h7 h5 W hW
      obtain ⟨r, hr⟩ : ∃ r, r = passAll n d s := ⟨_, rfl⟩
      rw [← hr] at e1
      simp only [← hr] at hp
      have t1 : ((n : Int) % 2 == 1) = true := by simp; omega
      have E1 := Lib.hid e1
      have Hw := Lib.hid hw
      clear e1 h h2 h5 h6 h7 hr hw
      go_enter Tryd.func18, Tryd.ntmps18
      go_wp2_with fail
      refine (hp _ Hw.out).mono ?_
      rintro _ _ ⟨rfl, rfl⟩
      go_wp2
      go_ret
      exact ⟨by rw [E1.out]; rfl, rfl⟩
    · rw [if_neg h2] at e1
      have t1 : ((n : Int) % 2 == 1) = false := by simp; omega
      have E1 := Lib.hid e1
      clear e1 h h2
      go_enter Tryd.func18, Tryd.ntmps18
      go_wp2
      go_ret
      exact ⟨by rw [E1.out]; rfl, rfl⟩

set_option maxHeartbeats 800000 in
theorem isSquare_any (a p e : Nat) (ha : a < 4294967296) (hp : p < 4294967296) (hp2 : 2 < p) (he : e = (p - 1) / 2) (w : World) :
    Calls Tryd.prog 58 #[.int .u32 (a : Int), .int .u32 (p : Int)] w fun r w' => r = .returned (.bool (decide (a ^ e % p = 1))) ∧ w' = w := by
  have hpow := fun W => power_any a p ha hp (by omega) 64 e (by
    have : e < 18446744073709551616 := by omega
    simpa using this) (by omega) W
  obtain ⟨m, hm⟩ : ∃ m, p = m + 1 := ⟨p - 1, by omega⟩
  subst hm
  have t1 : (m : Int) / 2 = (e : Int) := by omega
  have t2 : ((m : Int) + 1 == 2) = false := by simp; omega
  have hx : a ^ e % (m + 1) < m + 1 := Nat.mod_lt _ (by omega)
  obtain ⟨x, hxe⟩ : ∃ x, x = a ^ e % (m + 1) := ⟨_, rfl⟩
  rw [← hxe] at hx ⊢
  simp only [← hxe] at hpow
  clear he hxe
  go_enter Tryd.func58, Tryd.ntmps58
  go_wp2_with fail
  refine (hpow _).mono ?_
  rintro _ _ ⟨rfl, rfl⟩
  go_wp2
  go_ret
  refine ⟨?_, rfl⟩
  by_cases h : x = 1
  · simp [h]
  · simp [h]; omega

set_option maxHeartbeats 800000 in
theorem inverse_37 (w : World) : Calls Tryd.prog 62 #[.int .u32 3, .int .u32 7] w fun r w' => r = .returned (.int .u32 5) ∧ w' = w := by
  go_enter Tryd.func62, Tryd.ntmps62
  go_wp2
  go_step3
  go_wp2
  go_step3
  go_wp2
  go_loop [5, 6, 7, 8] (fun a b c d => (a = .int .i64 7 ∧ b = .int .i64 3 ∧ c = .int .i64 0 ∧ d = .int .i64 1) ∨ (a = .int .i64 3 ∧ b = .int .i64 1 ∧ c = .int .i64 1 ∧ d = .int .i64 (-2))) (fun _ b _ _ => (intOf b).toNat)
  case atStart => exact Or.inl ⟨rfl, rfl, rfl, rfl⟩
  case round =>
    rcases hrel with ⟨rfl, rfl, rfl, rfl⟩ | ⟨rfl, rfl, rfl, rfl⟩
    · go_wp2
      go_round
      case rel => exact Or.inr ⟨rfl, rfl, rfl, rfl⟩
      case measure => decide
    · go_wp2
      go_ret
      exact ⟨rfl, rfl⟩

end Go.Proofs.YtnjhppdcpjgfmaaDoor
