/- The library's bits functions at this translation, in the spe. The contracts of adder, subtracter, scaler, multiplier and t. The contracts of nat.Add, Sub and shortMul. The contract of addRow. The contracts of addInto and takeFrom. -/
import Derived.Test.YtcjgilagldbjnaaGreatDoorPkBb14
import Derived.Test.YtcjgilagldbjnaaGreatDoorShelf
import Derived.Lib.ItoaNum
import Derived.Shelf.Spec.BitsCarry
import Derived.Deep.CutBlock
import Derived.Deep.DeepCutAuto
namespace Go.Proofs.YtcjgilagldbjnaaGreatDoor
section
open Go.RowKit
theorem len32_any (x : Nat) (w : World) (h : x < 4294967296) : Calls Tryz.prog 77 #[.int .u32 (x : Int)] w fun e w' => e = .returned (.int .i64 (Lib.bitLen x : Int)) ∧ w = w' :=
 (Go.Proofs.Tryz.bits_Len32 (x : Int) w (by omega) (by omega)).mono fun _ _ ⟨he, hw⟩ => ⟨by rw [he]; simp, hw.symm⟩
theorem mul64_any (x y : Nat) (w : World) (hx : x < 18446744073709551616) (hy : y < 18446744073709551616) : Calls Tryz.prog 66 #[.int .u64 (x : Int), .int .u64 (y : Int)] w fun e w' => e = .returned (.tuple #[.int .u64 ((x * y / 18446744073709551616 : Nat) : Int), .int .u64 ((x * y % 18446744073709551616 : Nat) : Int)]) ∧ w = w' :=
 (Go.Proofs.Tryz.bits_Mul64 x y hx hy w).mono fun _ _ ⟨he, hw⟩ => ⟨he, hw.symm⟩
theorem bitLen_bounds (x : Nat) (h : x < 18446744073709551616) (h0 : x ≠ 0) : 1 ≤ Lib.bitLen x ∧ 2 ^ (Lib.bitLen x - 1) ≤ x ∧ x < 2 ^ Lib.bitLen x :=
 Lib.bitLenAux_bounds 64 x h h0
end
section
open Go.RowKit
theorem add64_run (x y c : Nat) (hc : c ≤ 1) (w : World) :
  (callFunc 105 #[.int .u64 (x : Int), .int .u64 (y : Int), .int .u64 (c : Int)]).run Tryz.prog w =
   .ok (.value (.tuple #[.int .u64 (((x + y + c) % 18446744073709551616 : Nat) : Int), .int .u64 (((x + y + c) / 18446744073709551616 : Nat) : Int)])) w := by
 rw [run_callFunc_extern Tryz.func105 (by kernel_rfl) (by kernel_rfl) (by kernel_rfl) (e := add64Entry) (by kernel_rfl), run_add64 x y c (by omega) (by omega) (by omega) (by omega)]
 simp only [Result.andThen]
 congr 5 <;> omega
theorem sub64_run (x y b : Nat) (hb : b ≤ 1) (w : World) :
  (callFunc 106 #[.int .u64 (x : Int), .int .u64 (y : Int), .int .u64 (b : Int)]).run Tryz.prog w =
   .ok (.value (.tuple #[.int .u64 (((x + 18446744073709551616 - y - b) % 18446744073709551616 : Nat) : Int), .int .u64 ((if x < y + b then 1 else 0 : Nat) : Int)])) w := by
 rw [run_callFunc_extern Tryz.func106 (by kernel_rfl) (by kernel_rfl) (by kernel_rfl) (e := sub64Entry) (by kernel_rfl), run_sub64 x y b hb]
 rfl
theorem blk_two' {w : World} {o : Obj} {t : TypeId} {cs : Array Value} {vs : List Value} (e : cs = vs.toArray) : Blk ((w.alloc o).alloc (.cells cs t (0, 0))) (w.heap.size + 1) t vs := by
 have := Blk.new_ (w := w.alloc o) (t := t) e
 simpa using this
theorem adder_any (w : World) : Calls Tryz.prog 38 #[] w fun e w' => e = .returned (.func (.func 63) #[] #[.pointer (some ⟨w.heap.size, 0, none⟩)]) ∧
  Blk w' w.heap.size 53 [.int .u64 ((0 : Nat) : Int)] ∧ w'.heap.size = w.heap.size + 1 ∧ Below w.heap.size w w' := by
 have hmf : ∀ (fn : Fn) (first cap : Array Value) (w : World), (Instr.makeFunc fn first cap).run Tryz.prog w = .ok (.func fn first cap) w := fun _ _ _ _ => rfl
 go_enter Tryz.func38, Tryz.ntmps38
 go_wp2
 go_ret
 exact ⟨rfl, Blk.new_ rfl, by simp, br9.alloc nl9 _⟩
theorem subtracter_any (w : World) : Calls Tryz.prog 112 #[] w fun e w' => e = .returned (.func (.func 113) #[] #[.pointer (some ⟨w.heap.size, 0, none⟩)]) ∧
  Blk w' w.heap.size 53 [.int .u64 ((0 : Nat) : Int)] ∧ w'.heap.size = w.heap.size + 1 ∧ Below w.heap.size w w' := by
 have hmf : ∀ (fn : Fn) (first cap : Array Value) (w : World), (Instr.makeFunc fn first cap).run Tryz.prog w = .ok (.func fn first cap) w := fun _ _ _ _ => rfl
 go_enter Tryz.func112, Tryz.ntmps112
 go_wp2
 go_ret
 exact ⟨rfl, Blk.new_ rfl, by simp, br9.alloc nl9 _⟩
theorem scaler_any (n : Nat) (w : World) : Calls Tryz.prog 79 #[.int .u32 (n : Int)] w fun e w' => e = .returned (.func (.func 91) #[] #[.pointer (some ⟨w.heap.size + 1, 0, none⟩), .pointer (some ⟨w.heap.size, 0, none⟩)]) ∧
  Blk w' w.heap.size 34 [.int .u32 (n : Int)] ∧ Blk w' (w.heap.size + 1) 53 [.int .u64 ((0 : Nat) : Int)] ∧ w'.heap.size = w.heap.size + 2 ∧ Below w.heap.size w w' := by
 have hmf : ∀ (fn : Fn) (first cap : Array Value) (w : World), (Instr.makeFunc fn first cap).run Tryz.prog w = .ok (.func fn first cap) w := fun _ _ _ _ => rfl
 go_enter Tryz.func79, Tryz.ntmps79
 go_wp2
 go_ret
 exact ⟨rfl, (Blk.new_ rfl).heapAlloc _, blk_two' rfl, by simp, (br9.alloc nl9 _).alloc (by simp) _⟩
theorem multiplier_any (n : Nat) (w : World) : Calls Tryz.prog 104 #[.int .u64 (n : Int)] w fun e w' => e = .returned (.func (.func 111) #[] #[.pointer (some ⟨w.heap.size, 0, none⟩), .pointer (some ⟨w.heap.size + 1, 0, none⟩)]) ∧
  Blk w' w.heap.size 53 [.int .u64 (n : Int)] ∧ Blk w' (w.heap.size + 1) 53 [.int .u64 ((0 : Nat) : Int)] ∧ w'.heap.size = w.heap.size + 2 ∧ Below w.heap.size w w' := by
 have hmf : ∀ (fn : Fn) (first cap : Array Value) (w : World), (Instr.makeFunc fn first cap).run Tryz.prog w = .ok (.func fn first cap) w := fun _ _ _ _ => rfl
 go_enter Tryz.func104, Tryz.ntmps104
 go_wp2
 go_ret
 exact ⟨rfl, (Blk.new_ rfl).heapAlloc _, blk_two' rfl, by simp, (br9.alloc nl9 _).alloc (by simp) _⟩
set_option maxHeartbeats 400000 in
theorem adder1_any (x y c g : Nat) (w : World) (hx : x < 4294967296) (hy : y < 4294967296) (hc : c ≤ 1) (hg : Blk w g 53 [.int .u64 (c : Int)]) :
  Calls Tryz.prog 63 #[.int .u32 (x : Int), .int .u32 (y : Int), .pointer (some ⟨g, 0, none⟩)] w fun e w' => e = .returned (.int .u32 (((c + x + y) % 4294967296 : Nat) : Int)) ∧ Blk w' g 53 [.int .u64 (((c + x + y) / 4294967296 : Nat) : Int)] ∧ Ch g w w' := by
 obtain ⟨s, hs⟩ : ∃ s, s = c + x + y := ⟨_, rfl⟩
 rw [← hs]
 have e1 : (c : Int) + ((x : Int) + (y : Int)) = (s : Int) := by omega
 have hb : s < 8589934592 := by omega
 have c1 := hg.cell0
 have f1 := hg.frozen 0
 clear hs
 go_enter Tryz.func63, Tryz.ntmps63
 go_wp2
 go_ret
 refine ⟨by simp, ?_, ((Ch.refl g w).setCell 0 _).setCell 0 _⟩
 have hb2 := (hg.set_ 0 (.int .u64 (s : Int))).set_ 0 (.int .u64 ((s / 4294967296 : Nat) : Int))
 simpa using hb2
set_option maxHeartbeats 400000 in
theorem subtracter1_any (x y c g : Nat) (w : World) (hx : x < 4294967296) (hy : y < 4294967296) (hc : c ≤ 1) (hg : Blk w g 53 [.int .u64 (c : Int)]) :
  Calls Tryz.prog 113 #[.int .u32 (x : Int), .int .u32 (y : Int), .pointer (some ⟨g, 0, none⟩)] w fun e w' => e = .returned (.int .u32 (((4294967296 + x - y - c) % 4294967296 : Nat) : Int)) ∧ Blk w' g 53 [.int .u64 ((1 - (4294967296 + x - y - c) / 4294967296 : Nat) : Int)] ∧ Ch g w w' := by
 obtain ⟨s, hs⟩ : ∃ s, s = (18446744073709551616 + x - y - c) % 18446744073709551616 := ⟨_, rfl⟩
 have e1 : IntKind.u64.wrap (IntKind.u64.wrap ((x : Int) - (y : Int)) - (c : Int)) = (s : Int) := by
  rw [IntKind.wrap_u64, IntKind.wrap_u64]; omega
 have hb : s < 18446744073709551616 := by omega
 have c1 := hg.cell0
 have f1 := hg.frozen 0
 have e2 : (4294967296 + x - y - c) % 4294967296 = s % 4294967296 := by omega
 have e3 : 1 - (4294967296 + x - y - c) / 4294967296 = s / 9223372036854775808 := by omega
 rw [e2, e3]
 have He1 := hi9 e1
 clear hs e1 e2 e3
 go_enter Tryz.func113, Tryz.ntmps113
 go_wp2
 rw [He1.out]
 go_wp2
 go_ret
 refine ⟨by simp, ?_, (Ch.refl g w).setCell 0 _⟩
 have hb2 := hg.set_ 0 (.int .u64 ((s / 9223372036854775808 : Nat) : Int))
 simpa using hb2
set_option maxHeartbeats 400000 in
theorem scaler1_any (x n c g h : Nat) (w : World) (hx : x < 4294967296) (hn : n < 4294967296) (hc : c < 4294967296) (hg : Blk w g 53 [.int .u64 (c : Int)]) (hh : Blk w h 34 [.int .u32 (n : Int)]) (hne : h ≠ g) :
  Calls Tryz.prog 91 #[.int .u32 (x : Int), .pointer (some ⟨g, 0, none⟩), .pointer (some ⟨h, 0, none⟩)] w fun e w' => e = .returned (.int .u32 (((c + x * n) % 4294967296 : Nat) : Int)) ∧ Blk w' g 53 [.int .u64 (((c + x * n) / 4294967296 : Nat) : Int)] ∧ Ch g w w' := by
 obtain ⟨p, hp⟩ : ∃ p, p = x * n := ⟨_, rfl⟩
 have hpb : p ≤ 4294967295 * 4294967295 := by rw [hp]; exact Nat.mul_le_mul (by omega) (by omega)
 obtain ⟨s, hs⟩ : ∃ s, s = c + p := ⟨_, rfl⟩
 rw [← hp, ← hs]
 have e0 : (x : Int) * (n : Int) = (p : Int) := by rw [hp]; simp
 have e1 : (c : Int) + (p : Int) = (s : Int) := by omega
 have hb : s < 18446744073709551616 := by omega
 have c1 := hg.cell0
 have c2 := hh.cell0
 have f1 := hg.frozen 0
 have e2 : ¬ (h = g) := hne
 clear hs hp
 go_enter Tryz.func91, Tryz.ntmps91
 go_wp2
 go_ret
 refine ⟨by simp, ?_, ((Ch.refl g w).setCell 0 _).setCell 0 _⟩
 have hb2 := (hg.set_ 0 (.int .u64 (s : Int))).set_ 0 (.int .u64 ((s / 4294967296 : Nat) : Int))
 simpa using hb2
theorem add64_run0 (x y : Nat) (w : World) :
  (callFunc 105 #[.int .u64 (x : Int), .int .u64 (y : Int), .int .u64 0]).run Tryz.prog w =
   .ok (.value (.tuple #[.int .u64 (((x + y) % 18446744073709551616 : Nat) : Int), .int .u64 (((x + y) / 18446744073709551616 : Nat) : Int)])) w := add64_run x y 0 (by omega) w
theorem sub64_run0 (x y : Nat) (w : World) :
  (callFunc 106 #[.int .u64 (x : Int), .int .u64 (y : Int), .int .u64 0]).run Tryz.prog w =
   .ok (.value (.tuple #[.int .u64 (((x + 18446744073709551616 - y) % 18446744073709551616 : Nat) : Int), .int .u64 ((if x < y then 1 else 0 : Nat) : Int)])) w := sub64_run x y 0 (by omega) w
set_option maxHeartbeats 400000 in
theorem multiplier1_any (x y n c g h : Nat) (w : World) (hx : x < 18446744073709551616) (hy : y < 18446744073709551616) (hn : n < 18446744073709551616) (hc : c < 18446744073709551616) (hg : Blk w g 53 [.int .u64 (c : Int)]) (hh : Blk w h 53 [.int .u64 (n : Int)]) (hne : h ≠ g) :
  Calls Tryz.prog 111 #[.int .u64 (x : Int), .int .u64 (y : Int), .pointer (some ⟨h, 0, none⟩), .pointer (some ⟨g, 0, none⟩)] w fun e w' => e = .returned (.int .u64 (((c + x * n + y) % 18446744073709551616 : Nat) : Int)) ∧ Blk w' g 53 [.int .u64 (((c + x * n + y) / 18446744073709551616 : Nat) : Int)] ∧ Ch g w w' := by
 have hpb : x * n ≤ 18446744073709551615 * 18446744073709551615 := Nat.mul_le_mul (by omega) (by omega)
 have hmul := fun W => mul64_any x n W hx hn
 obtain ⟨hi, hhi⟩ : ∃ hi, hi = x * n / 18446744073709551616 := ⟨_, rfl⟩
 obtain ⟨lo, hlo⟩ : ∃ lo, lo = x * n % 18446744073709551616 := ⟨_, rfl⟩
 have e0 : x * n = hi * 18446744073709551616 + lo := by rw [hhi, hlo]; omega
 rw [e0] at hpb ⊢
 rw [← hhi, ← hlo] at hmul
 have hlb : lo < 18446744073709551616 := by rw [hlo]; omega
 clear hhi hlo e0
 have a1 := fun W => add64_run0 lo y W
 obtain ⟨l1, hl1⟩ : ∃ l1, l1 = (lo + y) % 18446744073709551616 := ⟨_, rfl⟩
 obtain ⟨o1, ho1⟩ : ∃ o1, o1 = (lo + y) / 18446744073709551616 := ⟨_, rfl⟩
 rw [← hl1, ← ho1] at a1
 have a2 := fun W => add64_run0 l1 c W
 obtain ⟨l2, hl2⟩ : ∃ l2, l2 = (l1 + c) % 18446744073709551616 := ⟨_, rfl⟩
 obtain ⟨o2, ho2⟩ : ∃ o2, o2 = (l1 + c) / 18446744073709551616 := ⟨_, rfl⟩
 rw [← hl2, ← ho2] at a2
 have r1 : (c + (hi * 18446744073709551616 + lo) + y) % 18446744073709551616 = l2 := by omega
 have r2 : (c + (hi * 18446744073709551616 + lo) + y) / 18446744073709551616 = hi + o1 + o2 := by omega
 rw [r1, r2]
 have b1 : hi + o1 < 18446744073709551616 := by omega
 have b2 : hi + o1 + o2 < 18446744073709551616 := by omega
 have c1 := hg.cell0
 have c2 := hh.cell0
 have f1 := hg.frozen 0
 have e2 : ¬ (h = g) := hne
 clear hl1 ho1 hl2 ho2 r1 r2 hpb
 go_enter Tryz.func111, Tryz.ntmps111
 go_wp2_with (first
  | (go_at_call 66; (with_reducible refine (hmul _).mono ?_); rintro e w' ⟨rfl, rfl⟩)
  | (simp only [])
  | (simp only [a2]))
 go_ret
 refine ⟨by simp, ?_, (Ch.refl g w).setCell 0 _⟩
 have hb2 := hg.set_ 0 (.int .u64 ((hi + o1 + o2 : Nat) : Int))
 simpa using hb2
end
section
open Go.RowKit
theorem szA (w : World) (o : Obj) : (w.alloc o).heap.size = w.heap.size + 1 := by simp
theorem mk32s (n : Nat) (h : n + 1 ≤ 70368744177664) (W : World) : (Instr.makeSlice 23 (.int .i64 ((n : Int) + 1)) (.int .i64 ((n : Int) + 1))).run Tryz.prog W = .ok (.slice (some ⟨W.heap.size, 0, none⟩) (n + 1) (n + 1)) (W.alloc (.cells (List.replicate (n + 1) (Value.int .u32 0)).toArray 34)) := by
 have := mk32 (n + 1) h W
 rwa [show ((n + 1 : Nat) : Int) = (n : Int) + 1 from by omega] at this
theorem u32s_ne {xs : List Nat} {k : Nat} (h : k < xs.length) : u32s xs ≠ [] := by intro e; have := u32s_length xs; rw [e] at this; simp at this; omega
theorem u64s_ne {xs : List Nat} {k : Nat} (h : k < xs.length) : u64s xs ≠ [] := by intro e; have := u64s_length xs; rw [e] at this; simp at this; omega
theorem Rd.at32 {w : World} {B : Nat} {A : Option Addr} {xs : List Nat} (h : Rd w B A (u32s xs)) {k : Nat} (hk : k < xs.length) : ∃ b off, A = some ⟨b, off, none⟩ ∧ b < B ∧ w.cell? ⟨b, off + k, none⟩ = some (.int .u32 (xs[k] : Nat)) := by
 obtain ⟨b, off, e, hb, hc⟩ := h (u32s_ne hk)
 exact ⟨b, off, e, hb, hc k _ (u32s_at hk)⟩
theorem Rd.at64 {w : World} {B : Nat} {A : Option Addr} {xs : List Nat} (h : Rd w B A (u64s xs)) {k : Nat} (hk : k < xs.length) : ∃ b off, A = some ⟨b, off, none⟩ ∧ b < B ∧ w.cell? ⟨b, off + k, none⟩ = some (.int .u64 (xs[k] : Nat)) := by
 obtain ⟨b, off, e, hb, hc⟩ := h (u64s_ne hk)
 exact ⟨b, off, e, hb, hc k _ (u64s_at hk)⟩
theorem Rx.at64 {w : World} {g : Nat} {A : Option Addr} {xs : List Nat} (h : Rx w g A (u64s xs)) {k : Nat} (hk : k < xs.length) : ∃ b off, A = some ⟨b, off, none⟩ ∧ b < w.heap.size ∧ b ≠ g ∧ w.cell? ⟨b, off + k, none⟩ = some (.int .u64 (xs[k] : Nat)) := by
 obtain ⟨b, off, e, hb, hg, hc⟩ := h (u64s_ne hk)
 exact ⟨b, off, e, hb, hg, hc k _ (u64s_at hk)⟩
theorem Acc.done {b : Nat} {os zs : List Nat} {T k c : Nat} (h : Acc b os T k zs c) (hc : c = 0) : val b zs = val b os + T := by
 have := h.2.2.1; rw [hc] at this; simpa using this
theorem add_T {b : Nat} {us vs : List Nat} {k : Nat} (hu : k < us.length) (hv : k < vs.length) : val b (us.take k) + val b (vs.take k) + b ^ k * (us[k] + vs[k]) = val b (us.take (k + 1)) + val b (vs.take (k + 1)) := by
 rw [val_take_succ b us k hu, val_take_succ b vs k hv, Nat.mul_add]; omega
theorem add_T1 {b : Nat} {us : List Nat} {k V : Nat} (hu : k < us.length) : val b (us.take k) + V + b ^ k * us[k] = val b (us.take (k + 1)) + V := by
 rw [val_take_succ b us k hu]; omega
set_option maxHeartbeats 1600000 in
theorem add_any (A A2 : Option Addr) (c c2 : Nat) (xs ys : List Nat) (w : World) (B : Nat) (hr : Rd w B A (u32s xs)) (hr2 : Rd w B A2 (u32s ys)) (hB : B ≤ w.heap.size) (hd : Dig 4294967296 xs) (hd2 : Dig 4294967296 ys) (hc : xs.length ≤ c) (hc2 : ys.length ≤ c2) (hm : xs.length ≤ 70368744170000) (hm2 : ys.length ≤ 70368744170000) :
  Calls Tryz.prog 19 #[.slice A xs.length c, .slice A2 ys.length c2] w fun e w' => ∃ zs A' c', e = .returned (.slice A' zs.length c') ∧ Num 4294967296 zs (val 4294967296 xs + val 4294967296 ys) ∧ Res w' w.heap.size 34 A' c' (u32s zs) ∧ Below w.heap.size w w' := by
 have hl1 := trimL_length_le xs
 have hl2 := trimL_length_le ys
 obtain ⟨m, hmv⟩ : ∃ m, m = val 4294967296 xs := ⟨_, rfl⟩
 obtain ⟨n, hnv⟩ : ∃ n, n = val 4294967296 ys := ⟨_, rfl⟩
 have hn1 := Num.of_trim hd
 have hn2 := Num.of_trim hd2
 rw [← hmv] at hn1
 rw [← hnv] at hn2
 rw [← hmv, ← hnv]
 have hrt : Rd w B A (u32s (trimL xs)) := by rw [u32s_trim]; exact hr.take _
 have hrt2 : Rd w B A2 (u32s (trimL ys)) := by rw [u32s_trim]; exact hr2.take _
 obtain ⟨ps, hps⟩ : ∃ ps, ps = trimL xs := ⟨_, rfl⟩
 obtain ⟨qs, hqs⟩ : ∃ qs, qs = trimL ys := ⟨_, rfl⟩
 rw [← hps] at hn1 hrt hl1
 rw [← hqs] at hn2 hrt2 hl2
 have Hps := hi9 hps
 have Hqs := hi9 hqs
 have Hv : Hid (val 4294967296 ps + val 4294967296 qs = m + n) := by rw [hn1.2.2, hn2.2.2]; exact rfl
 have hdp := hn1.1
 have hdq := hn2.1
 have hm' : xs.length ≤ 281474976710656 := by omega
 have hm2' : ys.length ≤ 281474976710656 := by omega
 clear hps hqs hmv hnv hn1 hn2
 go_enter Tryz.func19, Tryz.ntmps19
 go_upto_if 18 with (first
  | (go_at_call 37; (with_reducible refine (trim_any A c xs _ B hr hc hm').mono ?_); rintro e w' ⟨rfl, rfl⟩; rw [← Hps.out])
  | (go_at_call 37; (with_reducible refine (trim_any A2 c2 ys _ B hr2 hc2 hm2').mono ?_); rintro e w' ⟨rfl, rfl⟩; rw [← Hqs.out]))
 go_cut [0, 1] (fun s0 s1 wc => ∃ (D D2 : Option Addr) (d d2 : Nat) (us vs : List Nat), s0 = .slice D us.length d ∧ s1 = .slice D2 vs.length d2 ∧ vs.length ≤ us.length ∧ us.length ≤ 70368744170000 ∧ Dig 4294967296 us ∧ Dig 4294967296 vs ∧ Hid (val 4294967296 us + val 4294967296 vs = m + n) ∧ Rd w B D (u32s us) ∧ Rd w B D2 (u32s vs) ∧ wc = w)
 case first =>
  by_cases hlt : ps.length < qs.length
  ·go_wp2
   go_meet
   exact ⟨A2, A, c2, c, qs, ps, rfl, rfl, by omega, by omega, hdq, hdp, by rw [Nat.add_comm]; exact Hv, hrt2, hrt, rfl⟩
  ·go_wp2
   go_meet
   exact ⟨A, A2, c, c2, ps, qs, rfl, rfl, by omega, by omega, hdp, hdq, Hv, hrt, hrt2, rfl⟩
 case rest =>
  clear hr hr2 hd hd2 hc hc2 hm hm2 hl1 hl2 hrt hrt2 Hps Hqs Hv hdp hdq hm' hm2'
  obtain ⟨D, D2, d, d2, us, vs, rfl, rfl, hle, hub, hdu, hdv, Hval, hru, hrv, rfl⟩ := hcut
  have hmk := fun W => mk32s us.length (by omega) W
  go_wp2_with (go_at_call 38; (with_reducible refine (adder_any _).mono ?_); rintro e w1 ⟨rfl, hbc, hsz, hbel⟩)
  rw [szA] at hbc hsz hbel
  have hblk0 : Blk w1 wc.heap.size 34 (u32s (List.replicate (us.length + 1) 0)) := by
   have h0 : Blk (wc.alloc (.cells (Array.replicate (us.length + 1) (Value.int .u32 0)) 34)) wc.heap.size 34 (u32s (List.replicate (us.length + 1) 0)) := Blk.new_ (by simp [u32s])
   exact h0.below hbel (by omega)
  have hbel1 : Below wc.heap.size wc w1 := (br9.alloc nl9 _).trans (hbel.mono (by omega))
  clear hbel hsz
  obtain ⟨os, hos⟩ : ∃ os, os = List.replicate (us.length + 1) 0 := ⟨_, rfl⟩
  have hol : os.length = us.length + 1 := by rw [hos]; simp
  have ho0 : Hid (∀ k (h : k < os.length), os[k] = 0) := by subst hos; exact fun k h => by simp
  have hov : Hid (val 4294967296 os = 0) := by rw [hos]; exact val_zeros _ _
  have hod : Dig 4294967296 os := by rw [hos]; exact Dig.zeros_ (by omega) _
  rw [← hos] at hblk0
  have Hol := hi9 hol
  clear hos hol
  go_loopw [7, 8, 28] (fun _ _ i wr => ∃ (k cc : Nat) (zs : List Nat), k ≤ vs.length ∧ i = .int .i64 k ∧ cc ≤ 1 ∧ Blk wr wc.heap.size 34 (u32s zs) ∧ Blk wr (wc.heap.size + 1) 53 [.int .u64 (cc : Int)] ∧ Acc 4294967296 os (val 4294967296 (us.take k) + val 4294967296 (vs.take k)) k zs cc ∧ Below wc.heap.size wc wr) (fun _ _ i _ => vs.length - (intOf i).toNat)
  case atStart => exact ⟨0, 0, os, by omega, rfl, by omega, hblk0, hbc, by simpa [val] using Acc.start hod, hbel1⟩
  case round =>
   clear hblk0 hbc hbel1
   obtain ⟨k, cc, zs, hk, rfl, hcc, hblk, hbc, hacc, hbel⟩ := hrel
   by_cases hlt : k < vs.length
   ·have hku : k < us.length := by omega
    obtain ⟨b, off, rfl, hb, hx⟩ := hru.at32 hku
    obtain ⟨b2, off2, rfl, hb2, hy⟩ := hrv.at32 hlt
    have hx := (hbel.cell (p := ⟨b, off + k, none⟩) (show b < _ by omega)).trans hx
    have hy := (hbel.cell (p := ⟨b2, off2 + k, none⟩) (show b2 < _ by omega)).trans hy
    have hxd := hdu.at_ k hku
    have hyd := hdv.at_ k hlt
    have hz1 : k < zs.length := by have := hacc.2.1.trans Hol.out; omega
    have hko : k < os.length := by have := Hol.out; omega
    go_wp2_with (go_at_call 63; (with_reducible refine (adder1_any _ _ cc _ _ hxd hyd hcc hbc).mono ?_); rintro e w2 ⟨rfl, hg2, hch⟩; have hq2 := hblk.ch hch (by omega); have hc2 := (hq2.cell k).trans (u32s_at hz1); have hf2 := hq2.frozen k)
    go_roundw
    case rel =>
     refine ⟨k + 1, (cc + us[k] + vs[k]) / 4294967296, zs.set k ((cc + us[k] + vs[k]) % 4294967296), by omega, by go_num, ?_, ?_, hg2.far (p := ⟨wc.heap.size, k, none⟩) (by simp) _, ?_, (hbel.trans (hch.below (by omega))).setCell (p := ⟨wc.heap.size, k, none⟩) nl9 _⟩
     ·omega
     ·have hb2 := hq2.set_ k (Value.int IntKind.u32 (((cc + us[k] + vs[k]) % 4294967296 : Nat) : Int))
      rw [u32s_set] at hb2
      exact hb2
     ·have h9 := hacc.step (d := us[k] + vs[k]) (r := (cc + us[k] + vs[k]) % 4294967296) (q := (cc + us[k] + vs[k]) / 4294967296) hko (by omega) (by rw [ho0.out k hko]; omega)
      rw [add_T hku hlt] at h9
      exact h9
    case measure => simp [intOf]; omega
   ·obtain rfl : k = vs.length := by omega
    go_wp2_with fail
    go_loopw [9] (fun i wr => ∃ (k cc : Nat) (zs : List Nat), vs.length ≤ k ∧ k ≤ us.length ∧ i = .int .i64 k ∧ cc ≤ 1 ∧ Blk wr wc.heap.size 34 (u32s zs) ∧ Blk wr (wc.heap.size + 1) 53 [.int .u64 (cc : Int)] ∧ Acc 4294967296 os (val 4294967296 (us.take k) + val 4294967296 vs) k zs cc ∧ Below wc.heap.size wc wr) (fun i _ => us.length - (intOf i).toNat)
    case atStart => exact ⟨vs.length, cc, zs, by omega, hle, rfl, hcc, hblk, hbc, by rw [List.take_length] at hacc; exact hacc, hbel⟩
    case round =>
     clear hblk hbc hacc hbel hcc
     obtain ⟨k, cc, zs, hkv, hk, rfl, hcc, hblk, hbc, hacc, hbel⟩ := hrel
     by_cases hlt : k < us.length
     ·obtain ⟨b, off, rfl, hb, hx⟩ := hru.at32 hlt
      have hx := (hbel.cell (p := ⟨b, off + k, none⟩) (show b < _ by omega)).trans hx
      have hxd := hdu.at_ k hlt
      have hz1 : k < zs.length := by have := hacc.2.1.trans Hol.out; omega
      have hko : k < os.length := by have := Hol.out; omega
      go_wp2_with fail
      refine (adder1_any us[k] 0 cc _ _ hxd (by omega) hcc hbc).mono ?_
      rintro e w2 ⟨rfl, hg2, hch⟩
      have hq2 := hblk.ch hch (by omega)
      have hc2 := (hq2.cell k).trans (u32s_at hz1)
      have hf2 := hq2.frozen k
      go_wp2_with fail
      go_roundw
      case rel =>
       refine ⟨k + 1, (cc + us[k] + 0) / 4294967296, zs.set k ((cc + us[k] + 0) % 4294967296), by omega, by omega, by go_num, ?_, ?_, hg2.far (p := ⟨wc.heap.size, k, none⟩) (by simp) _, ?_, (hbel.trans (hch.below (by omega))).setCell (p := ⟨wc.heap.size, k, none⟩) nl9 _⟩
       ·omega
       ·have hb2 := hq2.set_ k (Value.int IntKind.u32 (((cc + us[k] + 0) % 4294967296 : Nat) : Int))
        rw [u32s_set] at hb2
        exact hb2
       ·have h9 := hacc.step (d := us[k]) (r := (cc + us[k] + 0) % 4294967296) (q := (cc + us[k] + 0) / 4294967296) hko (by omega) (by rw [ho0.out k hko]; omega)
        rw [add_T1 hlt] at h9
        exact h9
      case measure => simp [intOf]; omega
     ·obtain rfl : k = us.length := by omega
      have hz1 : us.length < zs.length := by have := hacc.2.1.trans Hol.out; omega
      have hko : us.length < os.length := by have := Hol.out; omega
      go_wp2_with fail
      refine (adder1_any 0 0 cc _ _ (by omega) (by omega) hcc hbc).mono ?_
      rintro e w2 ⟨rfl, hg2, hch⟩
      have hq2 := hblk.ch hch (by omega)
      have hc2 := (hq2.cell us.length).trans (u32s_at hz1)
      have hf2 := hq2.frozen us.length
      have hb2 : Blk (w2.setCell ⟨wc.heap.size, us.length, none⟩ (.int .u32 (((cc + 0 + 0) % 4294967296 : Nat) : Int))) wc.heap.size 34 (u32s (zs.set us.length ((cc + 0 + 0) % 4294967296))) := by
       have := hq2.set_ us.length (Value.int IntKind.u32 (((cc + 0 + 0) % 4294967296 : Nat) : Int))
       rwa [u32s_set] at this
      have h9 := hacc.step (d := 0) (r := (cc + 0 + 0) % 4294967296) (q := (cc + 0 + 0) / 4294967296) hko (by omega) (by rw [ho0.out _ hko]; omega)
      obtain ⟨zs2, hzs2⟩ : ∃ zs2, zs2 = zs.set us.length ((cc + 0 + 0) % 4294967296) := ⟨_, rfl⟩
      rw [← hzs2] at hb2 h9
      have hl2 : Hid (zs2.length = us.length + 1) := h9.2.1.trans Hol.out
      have hm2 : zs2.length ≤ 281474976710656 := by have := hl2.out; omega
      have Hlv : Hid (val 4294967296 zs2 = m + n) := by
       have := h9.done (by omega)
       rw [hov.out, List.take_length, Nat.mul_zero, Nat.add_zero, Nat.zero_add, Hval.out] at this
       exact this
      have ld := h9.1
      have hbel3 := (hbel.trans (hch.below (B := wc.heap.size) (by omega))).setCell (p := ⟨wc.heap.size, us.length, none⟩) nl9 (.int .u32 (((cc + 0 + 0) % 4294967296 : Nat) : Int))
      clear hzs2 h9
      have hrd := (Res.of_blk0 hb2 nl9 (by rw [u32s_length]; omega)).rd
      go_wp2_with (go_at_call 37; rw [← hl2.out]; refine (trim_any _ _ zs2 _ _ hrd nl9 hm2).mono ?_; rintro e w3 ⟨rfl, rfl⟩)
      go_ret
      refine ⟨trimL zs2, _, _, rfl, ?_, ?_, hbel3⟩
      ·have hz := Num.of_trim ld
       rw [Hlv.out] at hz
       exact hz
      ·have h3 := (Res.of_blk0 hb2 nl9 (by rw [u32s_length]; omega)).take (trimL zs2).length
       rw [← u32s_trim, u32s_length] at h3
       exact h3
end
section
open Go.RowKit
theorem carry_mul3 {c x v y : Nat} {B : Nat} (hc : c < B) (hx : x < B) (hv : v < B) (hy : y < B) : (c + x * v + y) / B < B := by
 rw [Nat.div_lt_iff_lt_mul (by omega)]
 have h1 : x * v ≤ (B - 1) * (B - 1) := Nat.mul_le_mul (by omega) (by omega)
 obtain ⟨q, rfl⟩ : ∃ q, B = q + 1 := ⟨B - 1, by omega⟩
 have h2 : (q + 1) * (q + 1) = q * q + q + q + 1 := by rw [Nat.add_mul, Nat.mul_add]; omega
 rw [h2]
 simp only [Nat.add_sub_cancel] at h1
 omega
theorem mul_T64 {b : Nat} {us : List Nat} {k v : Nat} (hu : k < us.length) : val b (us.take k) * v + b ^ k * (us[k] * v) = val b (us.take (k + 1)) * v := by
 rw [val_take_succ b us k hu, Nat.add_mul, Nat.mul_assoc]
theorem Acc.at_ {b : Nat} {os zs : List Nat} {T k c : Nat} (h : Acc b os T k zs c) (hk : k < os.length) : ∃ h2 : k < zs.length, zs[k] = os[k] := ⟨by rw [h.2.1]; exact hk, h.2.2.2 k _ hk nl9⟩
theorem Dec.at_ {b : Nat} {os zs : List Nat} {T k c : Nat} (h : Dec b os T k zs c) (hk : k < os.length) : ∃ h2 : k < zs.length, zs[k] = os[k] := ⟨by rw [h.2.1]; exact hk, h.2.2.2 k _ hk nl9⟩
theorem seg_length {L : List Nat} {o n : Nat} (h : o + n ≤ L.length) : ((L.drop o).take n).length = n := by simp; omega
theorem seg_dig {b : Nat} {L : List Nat} (h : Dig b L) (o n : Nat) : Dig b ((L.drop o).take n) := (h.drop_ _).take_ _
theorem blk_patch {w : World} {g : Nat} {L zs : List Nat} {o k : Nat} (h : Blk w g 53 (u64s (patch L o zs))) (hk : k < zs.length) (ho : o + zs.length ≤ L.length) : w.cell? ⟨g, o + k, none⟩ = some (.int .u64 (zs[k] : Nat)) := by
 rw [h.cell (o + k), u64s_at (by rw [patch_length ho]; omega), patch_get hk ho]
theorem blk_patch_set {w : World} {g : Nat} {L zs : List Nat} {o k v : Nat} (h : Blk w g 53 (u64s (patch L o zs))) (hk : k < zs.length) (ho : o + zs.length ≤ L.length) : Blk (w.setCell ⟨g, o + k, none⟩ (.int .u64 (v : Int))) g 53 (u64s (patch L o (zs.set k v))) := by
 have := h.set_ (o + k) (.int .u64 (v : Int))
 rwa [u64s_set, patch_set hk ho] at this
set_option maxHeartbeats 1600000 in
theorem addRow_any (g o co : Nat) (L us : List Nat) (v : Nat) (A : Option Addr) (c : Nat) (w : World) (hblk : Blk w g 53 (u64s L)) (hrx : Rx w g A (u64s us)) (ho : o + us.length ≤ L.length) (hco : us.length ≤ co) (hd : Dig 18446744073709551616 L) (hdu : Dig 18446744073709551616 us) (hv : v < 18446744073709551616) (hm : L.length ≤ 281474976710656) (hm2 : us.length ≤ 281474976710656) :
  Calls Tryz.prog 92 #[.slice (some ⟨g, o, none⟩) us.length co, .slice A us.length c, .int .u64 (v : Int)] w fun e w' => ∃ (zs : List Nat) (q : Nat), e = .returned (.int .u64 (q : Int)) ∧ zs.length = us.length ∧ Dig 18446744073709551616 zs ∧ q < 18446744073709551616 ∧ val 18446744073709551616 zs + 18446744073709551616 ^ us.length * q = val 18446744073709551616 ((L.drop o).take us.length) + val 18446744073709551616 us * v ∧ Blk w' g 53 (u64s (patch L o zs)) ∧ Tn g w w' := by
 have hsl := seg_length ho
 have hsd := seg_dig hd o us.length
 have hps := patch_self ho
 obtain ⟨os, hos⟩ : ∃ os, os = (L.drop o).take us.length := ⟨_, rfl⟩
 rw [← hos] at hsl hsd hps ⊢
 have hblk0 : Blk w g 53 (u64s (patch L o os)) := by rw [hps]; exact hblk
 have Hsl := hi9 hsl
 have hgw := hblk.lt
 clear hos hsl hps hblk
 go_enter Tryz.func92, Tryz.ntmps92
 go_wp2_with (go_at_call 104; (with_reducible refine (multiplier_any _ _).mono ?_); rintro e w1 ⟨rfl, hbn, hbc, hsz, hbel⟩)
 have hblk1 := hblk0.below hbel hgw
 have htn1 : Tn g w w1 := Tn.of_below hbel nl9
 clear hblk0 hbel hsz
 go_loopw [8, 9, 18] (fun _ _ i wr => ∃ (k cc : Nat) (zs : List Nat), k ≤ us.length ∧ i = .int .i64 k ∧ cc < 18446744073709551616 ∧ Blk wr g 53 (u64s (patch L o zs)) ∧ Blk wr w.heap.size 53 [.int .u64 (v : Int)] ∧ Blk wr (w.heap.size + 1) 53 [.int .u64 (cc : Int)] ∧ Acc 18446744073709551616 os (val 18446744073709551616 (us.take k) * v) k zs cc ∧ Tn g w wr) (fun _ _ i _ => us.length - (intOf i).toNat)
 case atStart => exact ⟨0, 0, os, by omega, rfl, by omega, hblk1, hbn, hbc, by simpa [val] using Acc.start hsd, htn1⟩
 case round =>
  clear hblk1 hbn hbc htn1
  obtain ⟨k, cc, zs, hk, rfl, hcc, hblk, hbn, hbc, hacc, htn⟩ := hrel
  by_cases hlt : k < us.length
  ·obtain ⟨b, off, rfl, hb, hbg, hx⟩ := (hrx.tn htn).at64 hlt
   have hxd := hdu.at_ k hlt
   have hko : k < os.length := by rw [Hsl.out]; exact hlt
   obtain ⟨hz1, hzk⟩ := hacc.at_ hko
   have hzo : o + zs.length ≤ L.length := by rw [hacc.2.1, Hsl.out]; exact ho
   have hy := blk_patch hblk hz1 hzo
   have hyd := hacc.1.at_ k hz1
   have Hzk := hi9 hzk
   clear hzk
   go_wp2_with (go_at_call 111; (with_reducible refine (multiplier1_any _ _ v cc _ _ _ hxd hyd hv hcc hbc hbn (by omega)).mono ?_); rintro e w2 ⟨rfl, hg2, hch⟩; have hq2 := hblk.ch hch (by omega); have hc2 := blk_patch hq2 hz1 hzo; have hf2 := hq2.frozen (o + k))
   go_roundw
   case rel =>
    have h9 := hacc.step (d := us[k] * v) (r := (cc + us[k] * v + zs[k]) % 18446744073709551616) (q := (cc + us[k] * v + zs[k]) / 18446744073709551616) hko (by omega) (by rw [← Hzk.out]; omega)
    rw [mul_T64 hlt] at h9
    have htn2 := (htn.chNew hch (by omega)).setCell (o + k) (.int .u64 (((cc + us[k] * v + zs[k]) % 18446744073709551616 : Nat) : Int))
    exact ⟨k + 1, (cc + us[k] * v + zs[k]) / 18446744073709551616, zs.set k ((cc + us[k] * v + zs[k]) % 18446744073709551616), by omega, by go_num, carry_mul3 hcc hxd hv hyd, blk_patch_set hq2 hz1 hzo, (hbn.ch hch (by omega)).far (p := ⟨g, o + k, none⟩) (by simp; omega) _, hg2.far (p := ⟨g, o + k, none⟩) (by simp; omega) _, h9, htn2⟩
   case measure => simp [intOf]; omega
  ·obtain rfl : k = us.length := by omega
   go_wp2_with fail
   refine (multiplier1_any 0 0 v cc _ _ _ (by omega) (by omega) hv hcc hbc hbn (by omega)).mono ?_
   rw [show cc + 0 * v + 0 = cc from by omega, Nat.mod_eq_of_lt hcc]
   rintro e w2 ⟨rfl, hg2, hch⟩
   go_wp2_with fail
   go_ret
   refine ⟨zs, cc, rfl, hacc.2.1.trans Hsl.out, hacc.1, hcc, ?_, hblk.ch hch (by omega), htn.chNew hch (by omega)⟩
   have := hacc.2.2.1
   rw [List.take_length] at this
   exact this
end
section
open Go.RowKit
theorem one_T {b : Nat} {us : List Nat} {k : Nat} (hu : k < us.length) : val b (us.take k) + b ^ k * us[k] = val b (us.take (k + 1)) := (val_take_succ b us k hu).symm
theorem Acc.end_ {b : Nat} {os zs : List Nat} {T k c N : Nat} (h : Acc b os T k zs c) (hc : c = 0 ∨ k = N) : val b zs + b ^ N * c = val b os + T := by
 rcases hc with rfl | rfl
 ·have := h.2.2.1; simpa using this
 ·exact h.2.2.1
theorem Dec.end_ {b : Nat} {os zs : List Nat} {T k c N : Nat} (h : Dec b os T k zs c) (hc : c = 0 ∨ k = N) : val b zs + T = val b os + b ^ N * c := by
 rcases hc with rfl | rfl
 ·have := h.2.2.1; simpa using this
 ·exact h.2.2.1
set_option maxHeartbeats 1600000 in
theorem addInto_any (g o N co : Nat) (L us : List Nat) (A : Option Addr) (c : Nat) (w : World) (hblk : Blk w g 53 (u64s L)) (hrx : Rx w g A (u64s us)) (ho : o + N ≤ L.length) (hun : us.length ≤ N) (hd : Dig 18446744073709551616 L) (hdu : Dig 18446744073709551616 us) (hm : N ≤ 281474976710656) :
  Calls Tryz.prog 93 #[.slice (some ⟨g, o, none⟩) N co, .slice A us.length c] w fun e w' => ∃ (zs : List Nat) (q : Nat), e = .returned (.int .u64 (q : Int)) ∧ zs.length = N ∧ Dig 18446744073709551616 zs ∧ q ≤ 1 ∧ val 18446744073709551616 zs + 18446744073709551616 ^ N * q = val 18446744073709551616 ((L.drop o).take N) + val 18446744073709551616 us ∧ Blk w' g 53 (u64s (patch L o zs)) ∧ Tn g w w' := by
 have hsl := seg_length ho
 have hsd := seg_dig hd o N
 have hps := patch_self ho
 obtain ⟨os, hos⟩ : ∃ os, os = (L.drop o).take N := ⟨_, rfl⟩
 rw [← hos] at hsl hsd hps ⊢
 have hblk0 : Blk w g 53 (u64s (patch L o os)) := by rw [hps]; exact hblk
 have Hsl := hi9 hsl
 have hgw := hblk.lt
 clear hos hsl hps hblk
 go_enter Tryz.func93, Tryz.ntmps93
 go_wp2_with fail
 go_loopw [5, 6, 7, 11] (fun cv _ _ i wr => ∃ (k cc : Nat) (zs : List Nat), k ≤ us.length ∧ i = .int .i64 k ∧ cv = .int .u64 cc ∧ cc ≤ 1 ∧ Blk wr g 53 (u64s (patch L o zs)) ∧ Acc 18446744073709551616 os (val 18446744073709551616 (us.take k)) k zs cc ∧ Tn g w wr) (fun _ _ _ i _ => us.length - (intOf i).toNat)
 case atStart => exact ⟨0, 0, os, by omega, rfl, rfl, by omega, hblk0, by simpa [val] using Acc.start hsd, Tn.refl _ _⟩
 case round =>
  clear hblk0
  obtain ⟨k, cc, zs, hk, rfl, rfl, hcc, hblk, hacc, htn⟩ := hrel
  by_cases hlt : k < us.length
  ·obtain ⟨b, off, rfl, hb, hbg, hx⟩ := (hrx.tn htn).at64 hlt
   have hxd := hdu.at_ k hlt
   have hko : k < os.length := by rw [Hsl.out]; omega
   have hkN : k < N := by omega
   obtain ⟨hz1, hzk⟩ := hacc.at_ hko
   have hzo : o + zs.length ≤ L.length := by rw [hacc.2.1, Hsl.out]; exact ho
   have hy := blk_patch hblk hz1 hzo
   have hyd := hacc.1.at_ k hz1
   have hf := hblk.frozen (o + k)
   have Hzk := hi9 hzk
   have a1 := fun W => add64_run zs[k] us[k] cc hcc W
   obtain ⟨l, hl⟩ : ∃ l, l = (zs[k] + us[k] + cc) % 18446744073709551616 := ⟨_, rfl⟩
   obtain ⟨q, hq⟩ : ∃ q, q = (zs[k] + us[k] + cc) / 18446744073709551616 := ⟨_, rfl⟩
   rw [← hl, ← hq] at a1
   have Hl := hi9 hl
   have Hq := hi9 hq
   clear hzk hl hq
   go_wp2_with (simp only [a1])
   go_roundw
   case rel =>
    have hl := Hl.out
    have hq := Hq.out
    have h9 := hacc.step (d := us[k]) (r := l) (q := q) hko (by omega) (by rw [← Hzk.out]; omega)
    rw [one_T hlt] at h9
    exact ⟨k + 1, q, zs.set k l, by omega, by go_num, rfl, by omega, blk_patch_set hblk hz1 hzo, h9, htn.setCell (o + k) _⟩
   case measure => simp [intOf]; omega
  ·obtain rfl : k = us.length := by omega
   go_wp2_with fail
   go_loopw [5, 8] (fun cv i wr => ∃ (k cc : Nat) (zs : List Nat), us.length ≤ k ∧ k ≤ N ∧ i = .int .i64 k ∧ cv = .int .u64 cc ∧ cc ≤ 1 ∧ Blk wr g 53 (u64s (patch L o zs)) ∧ Acc 18446744073709551616 os (val 18446744073709551616 us) k zs cc ∧ Tn g w wr) (fun _ i _ => N - (intOf i).toNat)
   case atStart => exact ⟨us.length, cc, zs, by omega, hun, rfl, rfl, hcc, hblk, by rw [List.take_length] at hacc; exact hacc, htn⟩
   case round =>
    clear hblk hacc htn hcc
    obtain ⟨k, cc, zs, hku, hk, rfl, rfl, hcc, hblk, hacc, htn⟩ := hrel
    rcases Nat.eq_zero_or_pos cc with hc0 | hc1
    ·obtain rfl := hc0
     go_wp2_with fail
     go_ret
     exact ⟨zs, 0, rfl, hacc.2.1.trans Hsl.out, hacc.1, by omega, hacc.end_ (Or.inl rfl), hblk, htn⟩
    ·obtain rfl : cc = 1 := by omega
     by_cases hlt : k < N
     ·have hko : k < os.length := by rw [Hsl.out]; omega
      obtain ⟨hz1, hzk⟩ := hacc.at_ hko
      have hzo : o + zs.length ≤ L.length := by rw [hacc.2.1, Hsl.out]; exact ho
      have hy := blk_patch hblk hz1 hzo
      have hyd := hacc.1.at_ k hz1
      have hf := hblk.frozen (o + k)
      have Hzk := hi9 hzk
      have a1 : ∀ W, (callFunc 105 #[.int .u64 (zs[k] : Int), .int .u64 0, .int .u64 1]).run Tryz.prog W = _ := fun W => add64_run zs[k] 0 1 (by omega) W
      obtain ⟨l, hl⟩ : ∃ l, l = (zs[k] + 0 + 1) % 18446744073709551616 := ⟨_, rfl⟩
      obtain ⟨q, hq⟩ : ∃ q, q = (zs[k] + 0 + 1) / 18446744073709551616 := ⟨_, rfl⟩
      rw [← hl, ← hq] at a1
      have Hl := hi9 hl
      have Hq := hi9 hq
      clear hzk hl hq
      go_wp2_with (simp only [a1])
      go_roundw
      case rel =>
       have hl := Hl.out
       have hq := Hq.out
       have h9 := hacc.step (d := 0) (r := l) (q := q) hko (by omega) (by rw [← Hzk.out]; omega)
       rw [Nat.mul_zero, Nat.add_zero] at h9
       exact ⟨k + 1, q, zs.set k l, by omega, by omega, by go_num, rfl, by omega, blk_patch_set hblk hz1 hzo, h9, htn.setCell (o + k) _⟩
      case measure => simp [intOf]; omega
     ·obtain rfl : k = N := by omega
      go_wp2_with fail
      go_ret
      exact ⟨zs, 1, rfl, hacc.2.1.trans Hsl.out, hacc.1, by omega, hacc.end_ (Or.inr rfl), hblk, htn⟩
theorem nameIt (x : Nat) : ∃ l, l = x := ⟨x, rfl⟩
theorem sub64_b1 (x : Nat) (w : World) : (callFunc 106 #[.int .u64 (x : Int), .int .u64 0, .int .u64 1]).run Tryz.prog w = .ok (.value (.tuple #[.int .u64 (((x + 18446744073709551615) % 18446744073709551616 : Nat) : Int), .int .u64 ((if x < 1 then 1 else 0 : Nat) : Int)])) w := by
 have h := sub64_run x 0 1 (by omega) w
 rw [show x + 18446744073709551616 - 0 - 1 = x + 18446744073709551615 from by omega, Nat.zero_add] at h
 exact h
set_option maxHeartbeats 1600000 in
theorem takeFrom_any (g o N co : Nat) (L us : List Nat) (A : Option Addr) (c : Nat) (w : World) (hblk : Blk w g 53 (u64s L)) (hrx : Rx w g A (u64s us)) (ho : o + N ≤ L.length) (hun : us.length ≤ N) (hd : Dig 18446744073709551616 L) (hdu : Dig 18446744073709551616 us) (hm : N ≤ 281474976710656) :
  Calls Tryz.prog 95 #[.slice (some ⟨g, o, none⟩) N co, .slice A us.length c] w fun e w' => ∃ (zs : List Nat) (q : Nat), e = .returned (.int .u64 (q : Int)) ∧ zs.length = N ∧ Dig 18446744073709551616 zs ∧ q ≤ 1 ∧ val 18446744073709551616 zs + val 18446744073709551616 us = val 18446744073709551616 ((L.drop o).take N) + 18446744073709551616 ^ N * q ∧ Blk w' g 53 (u64s (patch L o zs)) ∧ Tn g w w' := by
 have hsl := seg_length ho
 have hsd := seg_dig hd o N
 have hps := patch_self ho
 obtain ⟨os, hos⟩ : ∃ os, os = (L.drop o).take N := ⟨_, rfl⟩
 rw [← hos] at hsl hsd hps ⊢
 have hblk0 : Blk w g 53 (u64s (patch L o os)) := by rw [hps]; exact hblk
 have Hsl := hi9 hsl
 have hgw := hblk.lt
 clear hos hsl hps hblk
 go_enter Tryz.func95, Tryz.ntmps95
 go_wp2_with fail
 go_loopw [5, 6, 7, 11] (fun cv _ _ i wr => ∃ (k cc : Nat) (zs : List Nat), k ≤ us.length ∧ i = .int .i64 k ∧ cv = .int .u64 cc ∧ cc ≤ 1 ∧ Blk wr g 53 (u64s (patch L o zs)) ∧ Dec 18446744073709551616 os (val 18446744073709551616 (us.take k)) k zs cc ∧ Tn g w wr) (fun _ _ _ i _ => us.length - (intOf i).toNat)
 case atStart => exact ⟨0, 0, os, by omega, rfl, rfl, by omega, hblk0, by simpa [val] using Dec.start hsd, Tn.refl _ _⟩
 case round =>
  clear hblk0
  obtain ⟨k, cc, zs, hk, rfl, rfl, hcc, hblk, hacc, htn⟩ := hrel
  by_cases hlt : k < us.length
  ·obtain ⟨b, off, rfl, hb, hbg, hx⟩ := (hrx.tn htn).at64 hlt
   have hxd := hdu.at_ k hlt
   have hko : k < os.length := by rw [Hsl.out]; omega
   have hkN : k < N := by omega
   obtain ⟨hz1, hzk⟩ := hacc.at_ hko
   have hzo : o + zs.length ≤ L.length := by rw [hacc.2.1, Hsl.out]; exact ho
   have hy := blk_patch hblk hz1 hzo
   have hyd := hacc.1.at_ k hz1
   have hf := hblk.frozen (o + k)
   have Hzk := hi9 hzk
   have a1 := fun W => sub64_run zs[k] us[k] cc hcc W
   obtain ⟨l, hl⟩ : ∃ l, l = (zs[k] + 18446744073709551616 - us[k] - cc) % 18446744073709551616 := ⟨_, rfl⟩
   obtain ⟨q, hq⟩ : ∃ q, q = if zs[k] < us[k] + cc then 1 else 0 := ⟨_, rfl⟩
   rw [← hl, ← hq] at a1
   have Hl := hi9 hl
   have Hq := hi9 hq
   clear hzk hl hq
   go_wp2_with (simp only [a1])
   go_roundw
   case rel =>
    have hl := Hl.out
    have hq := Hq.out
    have hzk := Hzk.out
    have hqq : q ≤ 1 := by rw [hq]; split <;> omega
    have h9 := hacc.step (d := us[k]) (r := l) (q := q) hko (by omega) (by rw [← hzk, hq]; split <;> omega)
    rw [one_T hlt] at h9
    exact ⟨k + 1, q, zs.set k l, by omega, by go_num, rfl, by omega, blk_patch_set hblk hz1 hzo, h9, htn.setCell (o + k) _⟩
   case measure => simp [intOf]; omega
  ·obtain rfl : k = us.length := by omega
   go_wp2_with fail
   go_loopw [5, 8] (fun cv i wr => ∃ (k cc : Nat) (zs : List Nat), us.length ≤ k ∧ k ≤ N ∧ i = .int .i64 k ∧ cv = .int .u64 cc ∧ cc ≤ 1 ∧ Blk wr g 53 (u64s (patch L o zs)) ∧ Dec 18446744073709551616 os (val 18446744073709551616 us) k zs cc ∧ Tn g w wr) (fun _ i _ => N - (intOf i).toNat)
   case atStart => exact ⟨us.length, cc, zs, by omega, hun, rfl, rfl, hcc, hblk, by rw [List.take_length] at hacc; exact hacc, htn⟩
   case round =>
    clear hblk hacc htn hcc
    obtain ⟨k, cc, zs, hku, hk, rfl, rfl, hcc, hblk, hacc, htn⟩ := hrel
    rcases Nat.eq_zero_or_pos cc with hc0 | hc1
    ·obtain rfl := hc0
     go_wp2_with fail
     go_ret
     exact ⟨zs, 0, rfl, hacc.2.1.trans Hsl.out, hacc.1, by omega, hacc.end_ (Or.inl rfl), hblk, htn⟩
    ·obtain rfl : cc = 1 := by omega
     by_cases hlt : k < N
     ·have hko : k < os.length := by rw [Hsl.out]; omega
      obtain ⟨hz1, hzk⟩ := hacc.at_ hko
      have hzo : o + zs.length ≤ L.length := by rw [hacc.2.1, Hsl.out]; exact ho
      have hy := blk_patch hblk hz1 hzo
      have hyd := hacc.1.at_ k hz1
      have hf := hblk.frozen (o + k)
      have Hzk := hi9 hzk
      have a1 := fun W => sub64_b1 zs[k] W
      obtain ⟨l, hl⟩ := nameIt ((zs[k] + 18446744073709551615) % 18446744073709551616)
      obtain ⟨q, hq⟩ := nameIt (if zs[k] < 1 then 1 else 0)
      rw [← hl, ← hq] at a1
      have Hl := hi9 hl
      have Hq := hi9 hq
      clear hzk hl hq
      go_wp2_with (simp only [a1])
      go_roundw
      case rel =>
       have hl := Hl.out
       have hq := Hq.out
       have hzk := Hzk.out
       have hqq : q ≤ 1 := by rw [hq]; split <;> omega
       have h9 := hacc.step (d := 0) (r := l) (q := q) hko (by omega) (by rw [← hzk, hq]; split <;> omega)
       rw [Nat.mul_zero, Nat.add_zero] at h9
       exact ⟨k + 1, q, zs.set k l, by omega, by omega, by go_num, rfl, by omega, blk_patch_set hblk hz1 hzo, h9, htn.setCell (o + k) _⟩
      case measure => simp [intOf]; omega
     ·obtain rfl : k = N := by omega
      go_wp2_with fail
      go_ret
      exact ⟨zs, 1, rfl, hacc.2.1.trans Hsl.out, hacc.1, by omega, hacc.end_ (Or.inr rfl), hblk, htn⟩
end
end Go.Proofs.YtcjgilagldbjnaaGreatDoor
