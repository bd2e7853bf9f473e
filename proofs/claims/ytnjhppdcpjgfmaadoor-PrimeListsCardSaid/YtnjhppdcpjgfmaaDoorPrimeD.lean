/- prime's root, Quo, Inv and Sqrt at the document's examples; Is at the two numbers; awake. Conditions: bases reads 2, 7, 61. -/
import Derived.Test.YtnjhppdcpjgfmaaDoorPrimeC
namespace Go.Proofs.YtnjhppdcpjgfmaaDoor
open Go.RowKit

/-- a^e modulo p by squaring: what the kernel can reckon. -/
def pw (a p : Nat) : Nat → Nat → Nat
  | 0, _ => 1
  | k + 1, e => if e % 2 = 1 then (pw a p k (e / 2) * pw a p k (e / 2) % p) * a % p else pw a p k (e / 2) * pw a p k (e / 2) % p
theorem pw_eq (a p : Nat) (hp : 1 < p) : ∀ k e, e < 2 ^ k → a ^ e % p = pw a p k e
  | 0, e, h => by
    obtain rfl : e = 0 := by simpa using h
    rw [Nat.pow_zero, Nat.mod_eq_of_lt hp]; rfl
  | k + 1, e, h => by
    rw [pow_half, pw_eq a p hp k (e / 2) (by rw [Nat.pow_succ] at h; omega)]
    rfl

/-- isN, as the kernel can reckon it. -/
def mrC (b n d s : Nat) : Bool := if pw b n 32 d = 1 then true else mrLoop n s (pw b n 32 d)
def isC (n d s : Nat) : Bool := if n < 4 then decide (1 < n) else if n % 2 = 1 then
  (if (if 2 % n = 0 then true else mrC 2 n d s) = true then if (if 7 % n = 0 then true else mrC 7 n d s) = true then (if 61 % n = 0 then true else mrC 61 n d s) else false else false) else false
theorem mr_eq (b n d s : Nat) (hn : 1 < n) (hd : d < 4294967296) : mr b n d s = mrC b n d s := by
  unfold mr mrC
  rw [pw_eq b n hn 32 d (by simpa using hd)]
theorem isN_eq (n d s : Nat) (hn : 1 < n) (hd : d < 4294967296) : isN n d s = isC n d s := by
  unfold isN isC passAll base1
  rw [mr_eq 2 n d s hn hd, mr_eq 7 n d s hn hd, mr_eq 61 n d s hn hd]

theorem isSquare_27 (w : World) : Calls Tryd.prog 58 #[.int .u32 2, .int .u32 7] w fun r w' => r = .returned (.bool true) ∧ w' = w := isSquare_any 2 7 3 (by decide) (by decide) (by decide) (by decide) w
theorem isSquare_37 (w : World) : Calls Tryd.prog 58 #[.int .u32 3, .int .u32 7] w fun r w' => r = .returned (.bool false) ∧ w' = w := isSquare_any 3 7 3 (by decide) (by decide) (by decide) (by decide) w
theorem power_337 (w : World) : Calls Tryd.prog 57 #[.int .u32 3, .int .u64 3, .int .u32 7] w fun r w' => r = .returned (.int .u32 6) ∧ w' = w := power_any 3 7 (by decide) (by decide) (by decide) 64 3 (by decide) (by decide) w
theorem power_227 (w : World) : Calls Tryd.prog 57 #[.int .u32 2, .int .u64 2, .int .u32 7] w fun r w' => r = .returned (.int .u32 4) ∧ w' = w := power_any 2 7 (by decide) (by decide) (by decide) 64 2 (by decide) (by decide) w
theorem power_237 (w : World) : Calls Tryd.prog 57 #[.int .u32 2, .int .u64 3, .int .u32 7] w fun r w' => r = .returned (.int .u32 1) ∧ w' = w := power_any 2 7 (by decide) (by decide) (by decide) 64 3 (by decide) (by decide) w
theorem times_157 (w : World) : Calls Tryd.prog 61 #[.int .u32 1, .int .u32 5, .int .u32 7] w fun r w' => r = .returned (.int .u32 5) ∧ w' = w := times_any 1 5 7 w (by decide) (by decide) (by decide) (by decide)

theorem is_7 (w : World) (hw : Bases w) : Calls Tryd.prog 18 #[.int .u32 7] w fun r w' => r = .returned (.bool true) ∧ w' = w := by
  have h := is_any 7 3 1 (by decide) (fun _ _ => ⟨by decide, by decide, by decide⟩) w hw
  rw [show isN 7 3 1 = true from by decide +kernel] at h
  exact h
theorem is_561 (w : World) (hw : Bases w) : Calls Tryd.prog 18 #[.int .u32 561] w fun r w' => r = .returned (.bool false) ∧ w' = w := by
  have h := is_any 561 35 4 (by decide) (fun _ _ => ⟨by decide, by decide, by decide⟩) w hw
  rw [show isN 561 35 4 = false from by decide +kernel] at h
  exact h
theorem is_big (w : World) (hw : Bases w) : Calls Tryd.prog 18 #[.int .u32 4294967291] w fun r w' => r = .returned (.bool true) ∧ w' = w := by
  have h := is_any 4294967291 2147483645 1 (by decide) (fun _ _ => ⟨by decide, by decide, by decide⟩) w hw
  have e : isC 4294967291 2147483645 1 = true := by decide +kernel
  rw [isN_eq 4294967291 2147483645 1 (by decide) (by decide), e] at h
  exact h

set_option maxHeartbeats 1600000 in
theorem root_27 (w : World) : Calls Tryd.prog 59 #[.int .u32 2, .int .u32 7] w fun r w' => r = .returned (.int .u32 4) ∧ w' = w := by
  go_enter Tryd.func59, Tryd.ntmps59
  go_wp2
  go_loop [5, 6] (fun a b => (a = .int .u32 6 ∧ b = .int .i64 0) ∨ (a = .int .u32 3 ∧ b = .int .i64 1)) (fun a _ => (intOf a).toNat)
  case atStart => exact Or.inl ⟨rfl, rfl⟩
  case round =>
    rcases hrel with ⟨rfl, rfl⟩ | ⟨rfl, rfl⟩
    · go_wp2
      go_round
      case rel => exact Or.inr ⟨rfl, rfl⟩
      case measure => decide
    · go_wp2
      go_loop [7] (fun a => a = .int .u32 2 ∨ a = .int .u32 3) (fun a => 3 - (intOf a).toNat)
      case atStart => exact Or.inl rfl
      case round =>
        rcases hrel with rfl | rfl
        · go_wp2_with fail
          refine (isSquare_27 _).mono ?_
          rintro _ _ ⟨rfl, rfl⟩
          go_wp2
          go_round
          case rel => exact Or.inr rfl
          case measure => decide
        · go_wp2_with fail
          refine (isSquare_37 _).mono ?_
          rintro _ _ ⟨rfl, rfl⟩
          go_wp2_with fail
          refine (power_337 _).mono ?_
          rintro _ _ ⟨rfl, rfl⟩
          go_wp2_with fail
          refine (power_227 _).mono ?_
          rintro _ _ ⟨rfl, rfl⟩
          go_wp2_with fail
          refine (power_237 _).mono ?_
          rintro _ _ ⟨rfl, rfl⟩
          go_wp2
          go_loop [6, 8, 9, 10, 11, 12] (fun _ _ c d _ _ => c = .int .u32 4 ∧ d = .int .u32 1) (fun _ _ _ _ _ _ => 0)
          case atStart => exact ⟨rfl, rfl⟩
          case round =>
            obtain ⟨rfl, rfl⟩ := hrel
            go_wp2
            go_ret
            exact ⟨rfl, rfl⟩

set_option maxHeartbeats 800000 in
theorem quo_137 (w : World) (hw : Bases w) : Calls Tryd.prog 46 #[.int .u32 1, .int .u32 3, .int .u32 7] w fun r w' => r = .returned (.tuple #[.int .u32 5, .int .i64 0]) ∧ w' = w := by
  have Hw := Lib.hid hw
  clear hw
  go_enter Tryd.func46, Tryd.ntmps46
  go_wp2_with fail
  refine (is_7 _ Hw.out).mono ?_
  rintro _ _ ⟨rfl, rfl⟩
  go_wp2_with fail
  refine (inverse_37 _).mono ?_
  rintro _ _ ⟨rfl, rfl⟩
  go_wp2_with fail
  refine (times_157 _).mono ?_
  rintro _ _ ⟨rfl, rfl⟩
  go_wp2
  go_ret2
  exact ⟨rfl, rfl⟩

set_option maxHeartbeats 800000 in
theorem inv_37 (w : World) (hw : Bases w) : Calls Tryd.prog 51 #[.int .u32 3, .int .u32 7] w fun r w' => r = .returned (.tuple #[.int .u32 5, .int .i64 0]) ∧ w' = w := by
  go_enter Tryd.func51, Tryd.ntmps51
  go_wp2_with fail
  refine (quo_137 _ hw).mono ?_
  rintro _ _ ⟨rfl, rfl⟩
  go_wp2
  go_ret2
  exact ⟨rfl, rfl⟩

set_option maxHeartbeats 800000 in
theorem sqrt_27 (w : World) (hw : Bases w) : Calls Tryd.prog 35 #[.int .u32 2, .int .u32 7] w fun r w' => r = .returned (.tuple #[.int .u32 3, .int .i64 0]) ∧ w' = w := by
  have Hw := Lib.hid hw
  clear hw
  go_enter Tryd.func35, Tryd.ntmps35
  go_wp2_with fail
  refine (is_7 _ Hw.out).mono ?_
  rintro _ _ ⟨rfl, rfl⟩
  go_wp2_with fail
  refine (isSquare_27 _).mono ?_
  rintro _ _ ⟨rfl, rfl⟩
  go_wp2_with fail
  refine (root_27 _).mono ?_
  rintro _ _ ⟨rfl, rfl⟩
  go_wp2
  go_ret2
  exact ⟨rfl, rfl⟩

theorem num_any (k : Int) (w : World) : Calls Tryd.prog 22 #[.int .i64 k] w fun r w' => r = .returned (.int .i64 k) ∧ w' = w := by
  go_enter Tryd.func22, Tryd.ntmps22
  go_wp2
  go_ret
  exact ⟨rfl, rfl⟩

set_option maxHeartbeats 1600000 in
theorem awake_any (w : World) (hw : Bases w) : Calls Tryd.prog 20 #[] w fun r w' => r = .returned (.bool true) ∧ w' = w := by
  have Hw := Lib.hid hw
  clear hw
  go_enter Tryd.func20, Tryd.ntmps20
  go_wp2_with fail
  refine (inv_37 _ Hw.out).mono ?_
  rintro _ _ ⟨rfl, rfl⟩
  go_wp2_with fail
  refine (sqrt_27 _ Hw.out).mono ?_
  rintro _ _ ⟨rfl, rfl⟩
  go_wp2_with fail
  refine (num_any _ _).mono ?_
  rintro _ _ ⟨rfl, rfl⟩
  go_wp2_with fail
  refine (num_any _ _).mono ?_
  rintro _ _ ⟨rfl, rfl⟩
  go_wp2_with fail
  refine (is_big _ Hw.out).mono ?_
  rintro _ _ ⟨rfl, rfl⟩
  go_wp2_with fail
  refine (is_561 _ Hw.out).mono ?_
  rintro _ _ ⟨rfl, rfl⟩
  go_wp2
  go_ret
  exact ⟨rfl, rfl⟩

end Go.Proofs.YtnjhppdcpjgfmaaDoor
