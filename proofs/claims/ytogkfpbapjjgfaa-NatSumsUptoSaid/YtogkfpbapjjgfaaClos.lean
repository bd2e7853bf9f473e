/- The contracts of adder, subtracter, scaler, multiplier and their closures; of Add64 and Sub64. -/
import Derived.Test.YtogkfpbapjjgfaaRowM
import Derived.Test.YtogkfpbapjjgfaaBits
import Derived.Shelf.Spec.BitsCarry
namespace Go.Proofs.Ytogkfpbapjjgfaa
open Go.RowKit

theorem add64_run (x y c : Nat) (hc : c ≤ 1) (w : World) :
    (callFunc 85 #[.int .u64 (x : Int), .int .u64 (y : Int), .int .u64 (c : Int)]).run Try.prog w =
      .ok (.value (.tuple #[.int .u64 (((x + y + c) % 18446744073709551616 : Nat) : Int), .int .u64 (((x + y + c) / 18446744073709551616 : Nat) : Int)])) w := by
  rw [run_callFunc_extern Try.func85 (by kernel_rfl) (by kernel_rfl) (by kernel_rfl) (e := add64Entry) (by kernel_rfl), run_add64 x y c (by omega) (by omega) (by omega) (by omega)]
  simp only [Result.andThen]
  congr 5 <;> omega
theorem sub64_run (x y b : Nat) (hb : b ≤ 1) (w : World) :
    (callFunc 86 #[.int .u64 (x : Int), .int .u64 (y : Int), .int .u64 (b : Int)]).run Try.prog w =
      .ok (.value (.tuple #[.int .u64 (((x + 18446744073709551616 - y - b) % 18446744073709551616 : Nat) : Int), .int .u64 ((if x < y + b then 1 else 0 : Nat) : Int)])) w := by
  rw [run_callFunc_extern Try.func86 (by kernel_rfl) (by kernel_rfl) (by kernel_rfl) (e := sub64Entry) (by kernel_rfl), run_sub64 x y b hb]
  rfl

theorem blk_two' {w : World} {o : Obj} {t : TypeId} {cs : Array Value} {vs : List Value} (e : cs = vs.toArray) : Blk ((w.alloc o).alloc (.cells cs t (0, 0))) (w.heap.size + 1) t vs := by
  have := Blk.new_ (w := w.alloc o) (t := t) e
  simpa using this

theorem adder_any (w : World) : Calls Try.prog 28 #[] w fun e w' => e = .returned (.func (.func 47) #[] #[.pointer (some ⟨w.heap.size, 0, none⟩)]) ∧
    Blk w' w.heap.size 44 [.int .u64 ((0 : Nat) : Int)] ∧ w'.heap.size = w.heap.size + 1 ∧ Below w.heap.size w w' := by
  have hmf : ∀ (fn : Fn) (first cap : Array Value) (w : World), (Instr.makeFunc fn first cap).run Try.prog w = .ok (.func fn first cap) w := fun _ _ _ _ => rfl
  go_enter Try.func28, Try.ntmps28
  go_wp2
  go_ret
  exact ⟨rfl, Blk.new_ rfl, by simp, (Below.refl _ _).alloc (Nat.le_refl _) _⟩
theorem subtracter_any (w : World) : Calls Try.prog 29 #[] w fun e w' => e = .returned (.func (.func 48) #[] #[.pointer (some ⟨w.heap.size, 0, none⟩)]) ∧
    Blk w' w.heap.size 44 [.int .u64 ((0 : Nat) : Int)] ∧ w'.heap.size = w.heap.size + 1 ∧ Below w.heap.size w w' := by
  have hmf : ∀ (fn : Fn) (first cap : Array Value) (w : World), (Instr.makeFunc fn first cap).run Try.prog w = .ok (.func fn first cap) w := fun _ _ _ _ => rfl
  go_enter Try.func29, Try.ntmps29
  go_wp2
  go_ret
  exact ⟨rfl, Blk.new_ rfl, by simp, (Below.refl _ _).alloc (Nat.le_refl _) _⟩
theorem scaler_any (n : Nat) (w : World) : Calls Try.prog 50 #[.int .u32 (n : Int)] w fun e w' => e = .returned (.func (.func 63) #[] #[.pointer (some ⟨w.heap.size + 1, 0, none⟩), .pointer (some ⟨w.heap.size, 0, none⟩)]) ∧
    Blk w' w.heap.size 34 [.int .u32 (n : Int)] ∧ Blk w' (w.heap.size + 1) 44 [.int .u64 ((0 : Nat) : Int)] ∧ w'.heap.size = w.heap.size + 2 ∧ Below w.heap.size w w' := by
  have hmf : ∀ (fn : Fn) (first cap : Array Value) (w : World), (Instr.makeFunc fn first cap).run Try.prog w = .ok (.func fn first cap) w := fun _ _ _ _ => rfl
  go_enter Try.func50, Try.ntmps50
  go_wp2
  go_ret
  exact ⟨rfl, (Blk.new_ rfl).heapAlloc _, blk_two' rfl, by simp, ((Below.refl _ _).alloc (Nat.le_refl _) _).alloc (by simp) _⟩
theorem multiplier_any (n : Nat) (w : World) : Calls Try.prog 84 #[.int .u64 (n : Int)] w fun e w' => e = .returned (.func (.func 91) #[] #[.pointer (some ⟨w.heap.size, 0, none⟩), .pointer (some ⟨w.heap.size + 1, 0, none⟩)]) ∧
    Blk w' w.heap.size 44 [.int .u64 (n : Int)] ∧ Blk w' (w.heap.size + 1) 44 [.int .u64 ((0 : Nat) : Int)] ∧ w'.heap.size = w.heap.size + 2 ∧ Below w.heap.size w w' := by
  have hmf : ∀ (fn : Fn) (first cap : Array Value) (w : World), (Instr.makeFunc fn first cap).run Try.prog w = .ok (.func fn first cap) w := fun _ _ _ _ => rfl
  go_enter Try.func84, Try.ntmps84
  go_wp2
  go_ret
  exact ⟨rfl, (Blk.new_ rfl).heapAlloc _, blk_two' rfl, by simp, ((Below.refl _ _).alloc (Nat.le_refl _) _).alloc (by simp) _⟩

set_option maxHeartbeats 400000 in
theorem adder1_any (x y c g : Nat) (w : World) (hx : x < 4294967296) (hy : y < 4294967296) (hc : c ≤ 1) (hg : Blk w g 44 [.int .u64 (c : Int)]) :
    Calls Try.prog 47 #[.int .u32 (x : Int), .int .u32 (y : Int), .pointer (some ⟨g, 0, none⟩)] w fun e w' => e = .returned (.int .u32 (((c + x + y) % 4294967296 : Nat) : Int)) ∧ Blk w' g 44 [.int .u64 (((c + x + y) / 4294967296 : Nat) : Int)] ∧ Ch g w w' := by
  obtain ⟨s, hs⟩ : ∃ s, s = c + x + y := ⟨_, rfl⟩
  rw [← hs]
  have e1 : (c : Int) + ((x : Int) + (y : Int)) = (s : Int) := by omega
  have hb : s < 8589934592 := by omega
  have c1 := hg.cell0
  have f1 := hg.frozen 0
  clear hs
  go_enter Try.func47, Try.ntmps47
  go_wp2
  go_ret
  refine ⟨by simp, ?_, ((Ch.refl g w).setCell 0 _).setCell 0 _⟩
  have hb2 := (hg.set_ 0 (.int .u64 (s : Int))).set_ 0 (.int .u64 ((s / 4294967296 : Nat) : Int))
  simpa using hb2

set_option maxHeartbeats 400000 in
theorem subtracter1_any (x y c g : Nat) (w : World) (hx : x < 4294967296) (hy : y < 4294967296) (hc : c ≤ 1) (hg : Blk w g 44 [.int .u64 (c : Int)]) :
    Calls Try.prog 48 #[.int .u32 (x : Int), .int .u32 (y : Int), .pointer (some ⟨g, 0, none⟩)] w fun e w' => e = .returned (.int .u32 (((4294967296 + x - y - c) % 4294967296 : Nat) : Int)) ∧ Blk w' g 44 [.int .u64 ((1 - (4294967296 + x - y - c) / 4294967296 : Nat) : Int)] ∧ Ch g w w' := by
  obtain ⟨s, hs⟩ : ∃ s, s = (18446744073709551616 + x - y - c) % 18446744073709551616 := ⟨_, rfl⟩
  have e1 : IntKind.u64.wrap (IntKind.u64.wrap ((x : Int) - (y : Int)) - (c : Int)) = (s : Int) := by
    rw [IntKind.wrap_u64, IntKind.wrap_u64]; omega
  have hb : s < 18446744073709551616 := by omega
  have c1 := hg.cell0
  have f1 := hg.frozen 0
  have e2 : (4294967296 + x - y - c) % 4294967296 = s % 4294967296 := by omega
  have e3 : 1 - (4294967296 + x - y - c) / 4294967296 = s / 9223372036854775808 := by omega
  rw [e2, e3]
  have He1 := Lib.hid e1
  clear hs e1 e2 e3
  go_enter Try.func48, Try.ntmps48
  go_wp2
  rw [He1.out]
  go_wp2
  go_ret
  refine ⟨by simp, ?_, (Ch.refl g w).setCell 0 _⟩
  have hb2 := hg.set_ 0 (.int .u64 ((s / 9223372036854775808 : Nat) : Int))
  simpa using hb2

set_option maxHeartbeats 400000 in
theorem scaler1_any (x n c g h : Nat) (w : World) (hx : x < 4294967296) (hn : n < 4294967296) (hc : c < 4294967296) (hg : Blk w g 44 [.int .u64 (c : Int)]) (hh : Blk w h 34 [.int .u32 (n : Int)]) (hne : h ≠ g) :
    Calls Try.prog 63 #[.int .u32 (x : Int), .pointer (some ⟨g, 0, none⟩), .pointer (some ⟨h, 0, none⟩)] w fun e w' => e = .returned (.int .u32 (((c + x * n) % 4294967296 : Nat) : Int)) ∧ Blk w' g 44 [.int .u64 (((c + x * n) / 4294967296 : Nat) : Int)] ∧ Ch g w w' := by
  obtain ⟨p, hp⟩ : ∃ p, p = x * n := ⟨_, rfl⟩
  have hpb : p ≤ 4294967295 * 4294967295 := by rw [hp]; exact Nat.mul_le_mul (by omega) (by omega)
  obtain ⟨s, hs⟩ : ∃ s, s = c + p := ⟨_, rfl⟩
  rw [← hp, ← hs]
  have e0 : (x : Int) * (n : Int) = (p : Int) := by rw [hp]; simp
  have e1 : (c : Int) + (p : Int) = (s : Int) := by omega
  have hb : s < 18446744073709551616 := by omega
  have c1 := hg.cell0
  have c2 := hh.cell0
  have f1 := hg.frozen 0
  have e2 : ¬ (h = g) := hne
  clear hs hp
  go_enter Try.func63, Try.ntmps63
  go_wp2
  go_ret
  refine ⟨by simp, ?_, ((Ch.refl g w).setCell 0 _).setCell 0 _⟩
  have hb2 := (hg.set_ 0 (.int .u64 (s : Int))).set_ 0 (.int .u64 ((s / 4294967296 : Nat) : Int))
  simpa using hb2

theorem add64_run0 (x y : Nat) (w : World) :
    (callFunc 85 #[.int .u64 (x : Int), .int .u64 (y : Int), .int .u64 0]).run Try.prog w =
      .ok (.value (.tuple #[.int .u64 (((x + y) % 18446744073709551616 : Nat) : Int), .int .u64 (((x + y) / 18446744073709551616 : Nat) : Int)])) w := add64_run x y 0 (by omega) w
theorem sub64_run0 (x y : Nat) (w : World) :
    (callFunc 86 #[.int .u64 (x : Int), .int .u64 (y : Int), .int .u64 0]).run Try.prog w =
      .ok (.value (.tuple #[.int .u64 (((x + 18446744073709551616 - y) % 18446744073709551616 : Nat) : Int), .int .u64 ((if x < y then 1 else 0 : Nat) : Int)])) w := sub64_run x y 0 (by omega) w

set_option maxHeartbeats 400000 in
theorem multiplier1_any (x y n c g h : Nat) (w : World) (hx : x < 18446744073709551616) (hy : y < 18446744073709551616) (hn : n < 18446744073709551616) (hc : c < 18446744073709551616) (hg : Blk w g 44 [.int .u64 (c : Int)]) (hh : Blk w h 44 [.int .u64 (n : Int)]) (hne : h ≠ g) :
    Calls Try.prog 91 #[.int .u64 (x : Int), .int .u64 (y : Int), .pointer (some ⟨h, 0, none⟩), .pointer (some ⟨g, 0, none⟩)] w fun e w' => e = .returned (.int .u64 (((c + x * n + y) % 18446744073709551616 : Nat) : Int)) ∧ Blk w' g 44 [.int .u64 (((c + x * n + y) / 18446744073709551616 : Nat) : Int)] ∧ Ch g w w' := by
  have hpb : x * n ≤ 18446744073709551615 * 18446744073709551615 := Nat.mul_le_mul (by omega) (by omega)
  have hmul := fun W => mul64_any x n W hx hn
  obtain ⟨hi, hhi⟩ : ∃ hi, hi = x * n / 18446744073709551616 := ⟨_, rfl⟩
  obtain ⟨lo, hlo⟩ : ∃ lo, lo = x * n % 18446744073709551616 := ⟨_, rfl⟩
  have e0 : x * n = hi * 18446744073709551616 + lo := by rw [hhi, hlo]; omega
  rw [e0] at hpb ⊢
  rw [← hhi, ← hlo] at hmul
  have hlb : lo < 18446744073709551616 := by rw [hlo]; omega
  clear hhi hlo e0
  have a1 := fun W => add64_run0 lo y W
  obtain ⟨l1, hl1⟩ : ∃ l1, l1 = (lo + y) % 18446744073709551616 := ⟨_, rfl⟩
  obtain ⟨o1, ho1⟩ : ∃ o1, o1 = (lo + y) / 18446744073709551616 := ⟨_, rfl⟩
  rw [← hl1, ← ho1] at a1
  have a2 := fun W => add64_run0 l1 c W
  obtain ⟨l2, hl2⟩ : ∃ l2, l2 = (l1 + c) % 18446744073709551616 := ⟨_, rfl⟩
  obtain ⟨o2, ho2⟩ : ∃ o2, o2 = (l1 + c) / 18446744073709551616 := ⟨_, rfl⟩
  rw [← hl2, ← ho2] at a2
  have r1 : (c + (hi * 18446744073709551616 + lo) + y) % 18446744073709551616 = l2 := by omega
  have r2 : (c + (hi * 18446744073709551616 + lo) + y) / 18446744073709551616 = hi + o1 + o2 := by omega
  rw [r1, r2]
  have b1 : hi + o1 < 18446744073709551616 := by omega
  have b2 : hi + o1 + o2 < 18446744073709551616 := by omega
  have c1 := hg.cell0
  have c2 := hh.cell0
  have f1 := hg.frozen 0
  have e2 : ¬ (h = g) := hne
  clear hl1 ho1 hl2 ho2 r1 r2 hpb
  go_enter Try.func91, Try.ntmps91
  go_wp2_with (first
    | (go_at_call 30; (with_reducible refine (hmul _).mono ?_); rintro e w' ⟨rfl, rfl⟩)
    | (simp only [])
    | (simp only [a2]))
  go_ret
  refine ⟨by simp, ?_, (Ch.refl g w).setCell 0 _⟩
  have hb2 := hg.set_ 0 (.int .u64 ((hi + o1 + o2 : Nat) : Int))
  simpa using hb2
end Go.Proofs.Ytogkfpbapjjgfaa
