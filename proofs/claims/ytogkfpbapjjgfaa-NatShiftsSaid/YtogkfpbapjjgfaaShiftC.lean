/- The contracts of lifter, dropper and their closures. -/
import Derived.Test.YtogkfpbapjjgfaaLives
namespace Go.Proofs.Ytogkfpbapjjgfaa
open Go.RowKit

theorem blk_two {w : World} {o : Obj} {t : TypeId} {cs : Array Value} {vs : List Value} (e : cs = vs.toArray) : Blk ((w.alloc o).alloc (.cells cs t (0, 0))) (w.heap.size + 1) t vs := by
  have := Blk.new_ (w := w.alloc o) (t := t) e
  simpa using this

theorem lifter_any (n : Nat) (w : World) : Calls Try.prog 55 #[.int .u64 (n : Int)] w fun e w' => e = .returned (.func (.func 75) #[] #[.pointer (some ⟨w.heap.size + 1, 0, none⟩), .pointer (some ⟨w.heap.size, 0, none⟩)]) ∧
    Blk w' w.heap.size 57 [.int .u64 (n : Int)] ∧ Blk w' (w.heap.size + 1) 44 [.int .u64 ((0 : Nat) : Int)] ∧ w'.heap.size = w.heap.size + 2 ∧ Below w.heap.size w w' := by
  have hmf : ∀ (fn : Fn) (first cap : Array Value) (w : World), (Instr.makeFunc fn first cap).run Try.prog w = .ok (.func fn first cap) w := fun _ _ _ _ => rfl
  go_enter Try.func55, Try.ntmps55
  go_wp2
  go_ret
  exact ⟨rfl, (Blk.new_ rfl).heapAlloc _, blk_two rfl, by simp, ((Below.refl _ _).alloc (Nat.le_refl _) _).alloc (by simp) _⟩

theorem dropper_any (n : Nat) (w : World) : Calls Try.prog 41 #[.int .u64 (n : Int)] w fun e w' => e = .returned (.func (.func 56) #[] #[.pointer (some ⟨w.heap.size + 1, 0, none⟩), .pointer (some ⟨w.heap.size, 0, none⟩)]) ∧
    Blk w' w.heap.size 57 [.int .u64 (n : Int)] ∧ Blk w' (w.heap.size + 1) 44 [.int .u64 ((0 : Nat) : Int)] ∧ w'.heap.size = w.heap.size + 2 ∧ Below w.heap.size w w' := by
  have hmf : ∀ (fn : Fn) (first cap : Array Value) (w : World), (Instr.makeFunc fn first cap).run Try.prog w = .ok (.func fn first cap) w := fun _ _ _ _ => rfl
  go_enter Try.func41, Try.ntmps41
  go_wp2
  go_ret
  exact ⟨rfl, (Blk.new_ rfl).heapAlloc _, blk_two rfl, by simp, ((Below.refl _ _).alloc (Nat.le_refl _) _).alloc (by simp) _⟩

theorem shift_or (c x n : Nat) (hn : n < 32) (hc : c < 2 ^ n) (hx : x < 4294967296) : bits BinOp.or IntKind.u64 (c : Int) (IntKind.u64.wrap ((x : Int) * 2 ^ n)) = ((c + 2 ^ n * x : Nat) : Int) ∧ c + 2 ^ n * x < 9223372036854775808 := by
  have h2 : 2 ^ n ≤ 2147483648 := by
    have : 2 ^ n ≤ 2 ^ 31 := Nat.pow_le_pow_right (by omega) (by omega)
    omega
  have h3 : 2 ^ n * x ≤ 2147483648 * x := Nat.mul_le_mul_right _ h2
  have e1 : IntKind.u64.wrap ((x : Int) * 2 ^ n) = ((x * 2 ^ n : Nat) : Int) := by
    rw [IntKind.wrap_u64, show ((x : Int) * 2 ^ n) = ((x * 2 ^ n : Nat) : Int) from by simp]
    rw [Nat.mul_comm] at h3
    omega
  refine ⟨?_, by omega⟩
  rw [e1, u64_or_nat c (x * 2 ^ n) (by omega) (by rw [Nat.mul_comm]; omega), Nat.or_comm, or_shift c x n hc]

set_option maxHeartbeats 400000 in
theorem lifter1_any (x c n g h : Nat) (w : World) (hn : n < 32) (hx : x < 4294967296) (hc : c < 2 ^ n) (hg : Blk w g 44 [.int .u64 (c : Int)]) (hh : Blk w h 57 [.int .u64 (n : Int)]) (hne : h ≠ g) :
    Calls Try.prog 75 #[.int .u32 (x : Int), .pointer (some ⟨g, 0, none⟩), .pointer (some ⟨h, 0, none⟩)] w fun e w' => e = .returned (.int .u32 (((c + 2 ^ n * x) % 4294967296 : Nat) : Int)) ∧ Blk w' g 44 [.int .u64 (((c + 2 ^ n * x) / 4294967296 : Nat) : Int)] ∧ Ch g w w' := by
  obtain ⟨s, hs⟩ : ∃ s, s = c + 2 ^ n * x := ⟨_, rfl⟩
  obtain ⟨e1, hb⟩ := shift_or c x n hn hc hx
  rw [← hs] at e1 hb ⊢
  have c1 := hg.cell0
  have c2 := hh.cell0
  have f1 := hg.frozen 0
  have e2 : ¬ (h = g) := hne
  have Hs := Lib.hid hs
  clear hs
  go_enter Try.func75, Try.ntmps75
  go_wp2
  go_ret
  refine ⟨by simp, ?_, ((Ch.refl g w).setCell 0 _).setCell 0 _⟩
  have hb2 := (hg.set_ 0 (.int .u64 (s : Int))).set_ 0 (.int .u64 ((s / 4294967296 : Nat) : Int))
  simpa using hb2

set_option maxHeartbeats 400000 in
set_option maxRecDepth 100000 in
theorem dropper1_any (x c n g h : Nat) (w : World) (hn : n < 32) (hx : x < 4294967296) (hc : c < 18446744073709551616) (hg : Blk w g 44 [.int .u64 (c : Int)]) (hh : Blk w h 57 [.int .u64 (n : Int)]) (hne : h ≠ g) :
    Calls Try.prog 56 #[.int .u32 (x : Int), .pointer (some ⟨g, 0, none⟩), .pointer (some ⟨h, 0, none⟩)] w fun e w' => e = .returned (.int .u32 (((c % 4294967296 * 4294967296 + x) / 2 ^ n % 4294967296 : Nat) : Int)) ∧ Blk w' g 44 [.int .u64 ((c % 4294967296 * 4294967296 + x : Nat) : Int)] ∧ Ch g w w' := by
  obtain ⟨s, hs⟩ : ∃ s, s = c % 4294967296 * 4294967296 + x := ⟨_, rfl⟩
  have e1 : bits BinOp.or IntKind.u64 (IntKind.u64.wrap ((c : Int) * 4294967296)) (x : Int) = (s : Int) := by
    have e : IntKind.u64.wrap ((c : Int) * 4294967296) = ((c % 4294967296 * 4294967296 : Nat) : Int) := by
      rw [IntKind.wrap_u64]; omega
    rw [e, u64_or_nat _ x (by omega) (by omega)]
    have := or_shift x (c % 4294967296) 32 (by omega)
    rw [show (2 : Nat) ^ 32 = 4294967296 from rfl] at this
    rw [this, hs]; congr 1; omega
  have hb : s < 18446744073709551616 := by omega
  rw [← hs]
  have c1 := hg.cell0
  have c2 := hh.cell0
  have f1 := hg.frozen 0
  have e2 : ¬ (h = g) := hne
  have Hs := Lib.hid hs
  clear hs
  go_enter Try.func56, Try.ntmps56
  go_wp2
  go_ret
  refine ⟨by simp, ?_, (Ch.refl g w).setCell 0 _⟩
  have hb2 := hg.set_ 0 (.int .u64 (s : Int))
  simpa using hb2
end Go.Proofs.Ytogkfpbapjjgfaa
