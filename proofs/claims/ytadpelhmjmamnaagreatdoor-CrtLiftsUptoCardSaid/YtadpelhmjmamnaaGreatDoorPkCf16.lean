/- The contracts of order and Cmp. The library's bits functions at this translation, in the spelling that the walks want. Conditions: the arguments are words of their kinds. The contracts of adder, subtracter, scaler, multiplier and their closures; of Add64 and Sub64. The contracts of nat.Add, Sub and shortMul. Conditions: fewer limbs than any slice can have. -/
import Derived.Test.YtadpelhmjmamnaaGreatDoorPkCf15
import Derived.Test.YtadpelhmjmamnaaGreatDoorShelf
import Derived.Lib.ItoaNum
import Derived.Shelf.Spec.BitsCarry
import Derived.Deep.CutBlock
import Derived.Deep.DeepCutAuto
namespace Go.Proofs.YtadpelhmjmamnaaGreatDoor
section
open Go.RowKit

/-- -1, 0 or 1. -/
def cmpN (a b : Nat) : Int := if a < b then -1 else if b < a then 1 else 0

set_option maxHeartbeats 400000 in
theorem order_any (b : Bool) (w : World) : Calls Tryz.prog 105 #[.bool b] w fun e w' => e = .returned (.int .i64 (if b then -1 else 1)) ∧ w = w' := by
  cases b
  all_goals
    go_enter Tryz.func105, Tryz.ntmps105
    go_wp2
    go_ret
    exact ⟨rfl, rfl⟩

theorem val_cmp_top (b : Nat) (xs ys : List Nat) (hx : Dig b xs) (hl : xs.length = ys.length) (j : Nat) (hj : j < xs.length) (hsame : ∀ i (h : i < xs.length), j < i → xs[i] = ys[i]'(by omega)) (hlt : xs[j] < ys[j]'(by omega)) : val b xs < val b ys := by
  induction xs generalizing ys j with
  | nil => simp at hj
  | cons x xs ih =>
    cases ys with
    | nil => simp at hl
    | cons y ys =>
      cases j with
      | zero =>
        have e : xs = ys := by
          apply List.ext_getElem (by simpa using hl)
          intro i h1 h2
          have := hsame (i + 1) (by simpa using h1) (by omega)
          simpa using this
        subst e
        simp only [val]
        simp at hlt
        omega
      | succ j =>
        have h1 := ih ys hx.tail_ (by simpa using hl) j (by simpa using hj) (fun i h hji => by
          have := hsame (i + 1) (by simpa using h) (by omega)
          simpa using this) (by simpa using hlt)
        have h2 := hx.head_
        simp only [val]
        have : b * (val b xs + 1) ≤ b * val b ys := Nat.mul_le_mul_left _ h1
        rw [Nat.mul_add] at this
        omega
theorem val_lt_len {b : Nat} {xs ys : List Nat} {m n : Nat} (hb : 0 < b) (hx : Num b xs m) (hy : Num b ys n) (h : xs.length < ys.length) : m < n := by
  have h1 := hx.lt
  have h2 := hy.ge (by rintro rfl; simp at h)
  have : b ^ xs.length ≤ b ^ (ys.length - 1) := Nat.pow_le_pow_right hb (by omega)
  omega

set_option maxHeartbeats 400000 in
theorem cmp_any (A A2 : Option Addr) (c c2 : Nat) (xs ys : List Nat) (w : World) (B : Nat) (hr : Rd w B A (u32s xs)) (hr2 : Rd w B A2 (u32s ys)) (hd : Dig 4294967296 xs) (hd2 : Dig 4294967296 ys) (hc : xs.length ≤ c) (hc2 : ys.length ≤ c2) (hm : xs.length ≤ 281474976710656) (hm2 : ys.length ≤ 281474976710656) :
    Calls Tryz.prog 70 #[.slice A xs.length c, .slice A2 ys.length c2] w fun e w' => e = .returned (.int .i64 (cmpN (val 4294967296 xs) (val 4294967296 ys))) ∧ Dr w w' := by
  obtain ⟨m, hmv⟩ : ∃ m, m = val 4294967296 xs := ⟨_, rfl⟩
  obtain ⟨n, hnv⟩ : ∃ n, n = val 4294967296 ys := ⟨_, rfl⟩
  have hn1 : Num 4294967296 (trimL xs) m := by rw [hmv]; exact Num.of_trim hd
  have hn2 : Num 4294967296 (trimL ys) n := by rw [hnv]; exact Num.of_trim hd2
  have hl1 := trimL_length_le xs
  have hl2 := trimL_length_le ys
  rw [← hmv, ← hnv]
  have hrt : Rd w B A (u32s (trimL xs)) := by rw [u32s_trim]; exact hr.take _
  have hrt2 : Rd w B A2 (u32s (trimL ys)) := by rw [u32s_trim]; exact hr2.take _
  obtain ⟨ps, has⟩ : ∃ ps, ps = trimL xs := ⟨_, rfl⟩
  obtain ⟨qs, hbs⟩ : ∃ qs, qs = trimL ys := ⟨_, rfl⟩
  rw [← has] at hn1 hrt hl1
  rw [← hbs] at hn2 hrt2 hl2
  have Has := Lib.hid has
  have Hbs := Lib.hid hbs
  clear has hbs hmv hnv
  rcases Nat.lt_trichotomy ps.length qs.length with hlt | heq | hgt
  · have hv : m < n := val_lt_len (by omega) hn1 hn2 hlt
    have e1 : cmpN m n = -1 := by simp [cmpN, hv]
    have He1 := Lib.hid e1
    have t1 : ((ps.length : Int) != (qs.length : Int)) = true := by rw [bne_iff_ne]; omega
    clear e1 hv
    go_enter Tryz.func70, Tryz.ntmps70
    go_wp2_with (first
      | (go_at_call 103; (with_reducible refine (trim_any A c xs _ B hr hc hm).mono ?_); rintro e w' ⟨rfl, rfl⟩; rw [← Has.out])
      | (go_at_call 103; (with_reducible refine (trim_any A2 c2 ys _ B hr2 hc2 hm2).mono ?_); rintro e w' ⟨rfl, rfl⟩; rw [← Hbs.out])
      | (go_at_call 105; (with_reducible refine (order_any _ _).mono ?_); rintro e w' ⟨rfl, rfl⟩))
    go_ret
    exact ⟨by rw [He1.out]; rfl, Dr.refl _⟩
  · have t1 : ((ps.length : Int) != (qs.length : Int)) = false := by rw [bne_eq_false_iff_eq]; omega
    have Heq := Lib.hid heq
    clear heq
    go_enter Tryz.func70, Tryz.ntmps70
    go_wp2_with (first
      | (go_at_call 103; (with_reducible refine (trim_any A c xs _ B hr hc hm).mono ?_); rintro e w' ⟨rfl, rfl⟩; rw [← Has.out])
      | (go_at_call 103; (with_reducible refine (trim_any A2 c2 ys _ B hr2 hc2 hm2).mono ?_); rintro e w' ⟨rfl, rfl⟩; rw [← Hbs.out])
      | (go_at_call 105; (with_reducible refine (order_any _ _).mono ?_); rintro e w' ⟨rfl, rfl⟩))
    go_loopw [5] (fun i wr => ∃ k : Nat, k ≤ ps.length ∧ i = .int .i64 ((k : Int) - 1) ∧ (∀ j (h : j < ps.length) (h2 : j < qs.length), k ≤ j → ps[j] = qs[j]) ∧ Dr w wr) (fun i _ => (intOf i + 1).toNat)
    case atStart => exact ⟨ps.length, Nat.le_refl _, rfl, fun j h _ hj => by omega, Dr.refl _⟩
    case round =>
      obtain ⟨k, hk, rfl, hs, hdr⟩ := hrel
      rcases k with _ | k
      · go_wp2
        go_ret
        have e : ps = qs := List.ext_getElem Heq.out (fun j h1 h2 => hs j h1 h2 (Nat.zero_le _))
        have e2 : m = n := by rw [← hn1.2.2, ← hn2.2.2, e]
        exact ⟨by rw [e2]; simp [cmpN], hdr⟩
      · have hk2 : k < qs.length := by have := Heq.out; omega
        obtain ⟨b, off, rfl, hb, hcell⟩ := hrt (by intro e; have := u32s_length ps; rw [e] at this; simp at this; omega)
        obtain ⟨b2, off2, rfl, hb2, hcell2⟩ := hrt2 (by intro e; have := u32s_length qs; rw [e] at this; simp at this; omega)
        have hx := hcell k _ (u32s_at (by omega))
        have hy := hcell2 k _ (u32s_at hk2)
        rw [show ((k + 1 : Nat) : Int) - 1 = (k : Int) from by omega]
        have hx := ((hdr.below B).cell (p := ⟨b, off + k, none⟩) hb).trans hx
        have hy := ((hdr.below B).cell (p := ⟨b2, off2 + k, none⟩) hb2).trans hy
        clear hcell hcell2 hr hr2 hrt hrt2
        rcases Nat.lt_trichotomy ps[k] qs[k] with hlt | he | hgt
        · have hv : m < n := by
            rw [← hn1.2.2, ← hn2.2.2]
            exact val_cmp_top _ ps qs hn1.1 Heq.out k (by omega) (fun i h hki => hs i h (by have := Heq.out; omega) hki) hlt
          have e1 : cmpN m n = -1 := by simp [cmpN, hv]
          have He1 := Lib.hid e1
          have t2 : ((ps[k] : Int) != (qs[k] : Int)) = true := by rw [bne_iff_ne]; omega
          have t3 : decide (ps[k] < qs[k]) = true := by simp; omega
          clear e1 hv hs
          go_wp2
          go_quiet (fail)
          go_wp2
          go_quiet ((go_at_call 105; first | exact quietL (order_any _ _) | exact quietAddL (order_any _ _)))
          go_wp2
          go_ret
          exact ⟨by rw [He1.out]; rfl, by first | exact hdr.step _ | exact (hdr.step _).step _⟩
        · have t2 : ((ps[k] : Int) != (qs[k] : Int)) = false := by rw [bne_eq_false_iff_eq]; omega
          have Hs : Hid (∀ j (h : j < ps.length) (h2 : j < qs.length), k ≤ j → ps[j] = qs[j]) := fun j h h2 hkj => by
            by_cases e : k = j
            · subst e; exact he
            · exact hs j h h2 (by omega)
          clear hs he
          go_wp2
          go_quiet (fail)
          go_wp2
          go_roundw
          case rel => exact ⟨k, by omega, by go_num, Hs.out, hdr.step _⟩
          case measure => simp [intOf]
        · have hv : n < m := by
            rw [← hn1.2.2, ← hn2.2.2]
            exact val_cmp_top _ qs ps hn2.1 Heq.out.symm k hk2 (fun i h hki => (hs i (by have := Heq.out; omega) h hki).symm) hgt
          have e1 : cmpN m n = 1 := by simp [cmpN, hv]; omega
          have He1 := Lib.hid e1
          have t2 : ((ps[k] : Int) != (qs[k] : Int)) = true := by rw [bne_iff_ne]; omega
          have t3 : decide (ps[k] < qs[k]) = false := by simp; omega
          clear e1 hv hs
          go_wp2
          go_quiet (fail)
          go_wp2
          go_quiet ((go_at_call 105; first | exact quietL (order_any _ _) | exact quietAddL (order_any _ _)))
          go_wp2
          go_ret
          exact ⟨by rw [He1.out]; rfl, by first | exact hdr.step _ | exact (hdr.step _).step _⟩
  · have hv : n < m := val_lt_len (by omega) hn2 hn1 hgt
    have e1 : cmpN m n = 1 := by simp [cmpN, hv]; omega
    have He1 := Lib.hid e1
    have t1 : ((ps.length : Int) != (qs.length : Int)) = true := by rw [bne_iff_ne]; omega
    clear e1 hv
    go_enter Tryz.func70, Tryz.ntmps70
    go_wp2_with (first
      | (go_at_call 103; (with_reducible refine (trim_any A c xs _ B hr hc hm).mono ?_); rintro e w' ⟨rfl, rfl⟩; rw [← Has.out])
      | (go_at_call 103; (with_reducible refine (trim_any A2 c2 ys _ B hr2 hc2 hm2).mono ?_); rintro e w' ⟨rfl, rfl⟩; rw [← Hbs.out])
      | (go_at_call 105; (with_reducible refine (order_any _ _).mono ?_); rintro e w' ⟨rfl, rfl⟩))
    go_ret
    exact ⟨by rw [He1.out]; rfl, Dr.refl _⟩
end
section
open Go.RowKit

theorem lz64_any (x : Nat) (w : World) (h : x < 18446744073709551616) : Calls Tryz.prog 173 #[.int .u64 (x : Int)] w fun e w' => e = .returned (.int .i64 (64 - (Lib.bitLen x : Int))) ∧ w = w' :=
  (Go.Proofs.Tryz.bits_LeadingZeros64 (x : Int) w (by omega) (by omega)).mono fun _ _ ⟨he, hw⟩ => ⟨by rw [he]; simp, hw.symm⟩
theorem mul64_any (x y : Nat) (w : World) (hx : x < 18446744073709551616) (hy : y < 18446744073709551616) : Calls Tryz.prog 114 #[.int .u64 (x : Int), .int .u64 (y : Int)] w fun e w' => e = .returned (.tuple #[.int .u64 ((x * y / 18446744073709551616 : Nat) : Int), .int .u64 ((x * y % 18446744073709551616 : Nat) : Int)]) ∧ w = w' :=
  (Go.Proofs.Tryz.bits_Mul64 x y hx hy w).mono fun _ _ ⟨he, hw⟩ => ⟨he, hw.symm⟩

theorem bitLen_bounds (x : Nat) (h : x < 18446744073709551616) (h0 : x ≠ 0) : 1 ≤ Lib.bitLen x ∧ 2 ^ (Lib.bitLen x - 1) ≤ x ∧ x < 2 ^ Lib.bitLen x :=
  Lib.bitLenAux_bounds 64 x h h0
theorem bitLen_le64 (x : Nat) (h : x < 18446744073709551616) : Lib.bitLen x ≤ 64 := Lib.bitLen_le x 64 (Nat.le_refl _) h
end
section
open Go.RowKit

theorem add64_run (x y c : Nat) (hc : c ≤ 1) (w : World) :
    (callFunc 180 #[.int .u64 (x : Int), .int .u64 (y : Int), .int .u64 (c : Int)]).run Tryz.prog w =
      .ok (.value (.tuple #[.int .u64 (((x + y + c) % 18446744073709551616 : Nat) : Int), .int .u64 (((x + y + c) / 18446744073709551616 : Nat) : Int)])) w := by
  rw [run_callFunc_extern Tryz.func180 (by kernel_rfl) (by kernel_rfl) (by kernel_rfl) (e := add64Entry) (by kernel_rfl), run_add64 x y c (by omega) (by omega) (by omega) (by omega)]
  simp only [Result.andThen]
  congr 5 <;> omega
theorem sub64_run (x y b : Nat) (hb : b ≤ 1) (w : World) :
    (callFunc 181 #[.int .u64 (x : Int), .int .u64 (y : Int), .int .u64 (b : Int)]).run Tryz.prog w =
      .ok (.value (.tuple #[.int .u64 (((x + 18446744073709551616 - y - b) % 18446744073709551616 : Nat) : Int), .int .u64 ((if x < y + b then 1 else 0 : Nat) : Int)])) w := by
  rw [run_callFunc_extern Tryz.func181 (by kernel_rfl) (by kernel_rfl) (by kernel_rfl) (e := sub64Entry) (by kernel_rfl), run_sub64 x y b hb]
  rfl

theorem blk_two' {w : World} {o : Obj} {t : TypeId} {cs : Array Value} {vs : List Value} (e : cs = vs.toArray) : Blk ((w.alloc o).alloc (.cells cs t (0, 0))) (w.heap.size + 1) t vs := by
  have := Blk.new_ (w := w.alloc o) (t := t) e
  simpa using this

theorem adder_any (w : World) : Calls Tryz.prog 113 #[] w fun e w' => e = .returned (.func (.func 141) #[] #[.pointer (some ⟨w.heap.size, 0, none⟩)]) ∧
    Blk w' w.heap.size 84 [.int .u64 ((0 : Nat) : Int)] ∧ w'.heap.size = w.heap.size + 1 ∧ Below w.heap.size w w' := by
  have hmf : ∀ (fn : Fn) (first cap : Array Value) (w : World), (Instr.makeFunc fn first cap).run Tryz.prog w = .ok (.func fn first cap) w := fun _ _ _ _ => rfl
  go_enter Tryz.func113, Tryz.ntmps113
  go_wp2
  go_ret
  exact ⟨rfl, Blk.new_ rfl, by simp, (Below.refl _ _).alloc (Nat.le_refl _) _⟩
theorem subtracter_any (w : World) : Calls Tryz.prog 178 #[] w fun e w' => e = .returned (.func (.func 194) #[] #[.pointer (some ⟨w.heap.size, 0, none⟩)]) ∧
    Blk w' w.heap.size 84 [.int .u64 ((0 : Nat) : Int)] ∧ w'.heap.size = w.heap.size + 1 ∧ Below w.heap.size w w' := by
  have hmf : ∀ (fn : Fn) (first cap : Array Value) (w : World), (Instr.makeFunc fn first cap).run Tryz.prog w = .ok (.func fn first cap) w := fun _ _ _ _ => rfl
  go_enter Tryz.func178, Tryz.ntmps178
  go_wp2
  go_ret
  exact ⟨rfl, Blk.new_ rfl, by simp, (Below.refl _ _).alloc (Nat.le_refl _) _⟩
theorem scaler_any (n : Nat) (w : World) : Calls Tryz.prog 143 #[.int .u32 (n : Int)] w fun e w' => e = .returned (.func (.func 155) #[] #[.pointer (some ⟨w.heap.size + 1, 0, none⟩), .pointer (some ⟨w.heap.size, 0, none⟩)]) ∧
    Blk w' w.heap.size 27 [.int .u32 (n : Int)] ∧ Blk w' (w.heap.size + 1) 84 [.int .u64 ((0 : Nat) : Int)] ∧ w'.heap.size = w.heap.size + 2 ∧ Below w.heap.size w w' := by
  have hmf : ∀ (fn : Fn) (first cap : Array Value) (w : World), (Instr.makeFunc fn first cap).run Tryz.prog w = .ok (.func fn first cap) w := fun _ _ _ _ => rfl
  go_enter Tryz.func143, Tryz.ntmps143
  go_wp2
  go_ret
  exact ⟨rfl, (Blk.new_ rfl).heapAlloc _, blk_two' rfl, by simp, ((Below.refl _ _).alloc (Nat.le_refl _) _).alloc (by simp) _⟩
theorem multiplier_any (n : Nat) (w : World) : Calls Tryz.prog 179 #[.int .u64 (n : Int)] w fun e w' => e = .returned (.func (.func 195) #[] #[.pointer (some ⟨w.heap.size, 0, none⟩), .pointer (some ⟨w.heap.size + 1, 0, none⟩)]) ∧
    Blk w' w.heap.size 84 [.int .u64 (n : Int)] ∧ Blk w' (w.heap.size + 1) 84 [.int .u64 ((0 : Nat) : Int)] ∧ w'.heap.size = w.heap.size + 2 ∧ Below w.heap.size w w' := by
  have hmf : ∀ (fn : Fn) (first cap : Array Value) (w : World), (Instr.makeFunc fn first cap).run Tryz.prog w = .ok (.func fn first cap) w := fun _ _ _ _ => rfl
  go_enter Tryz.func179, Tryz.ntmps179
  go_wp2
  go_ret
  exact ⟨rfl, (Blk.new_ rfl).heapAlloc _, blk_two' rfl, by simp, ((Below.refl _ _).alloc (Nat.le_refl _) _).alloc (by simp) _⟩

set_option maxHeartbeats 400000 in
theorem adder1_any (x y c g : Nat) (w : World) (hx : x < 4294967296) (hy : y < 4294967296) (hc : c ≤ 1) (hg : Blk w g 84 [.int .u64 (c : Int)]) :
    Calls Tryz.prog 141 #[.int .u32 (x : Int), .int .u32 (y : Int), .pointer (some ⟨g, 0, none⟩)] w fun e w' => e = .returned (.int .u32 (((c + x + y) % 4294967296 : Nat) : Int)) ∧ Blk w' g 84 [.int .u64 (((c + x + y) / 4294967296 : Nat) : Int)] ∧ Ch g w w' := by
  obtain ⟨s, hs⟩ : ∃ s, s = c + x + y := ⟨_, rfl⟩
  rw [← hs]
  have e1 : (c : Int) + ((x : Int) + (y : Int)) = (s : Int) := by omega
  have hb : s < 8589934592 := by omega
  have c1 := hg.cell0
  have f1 := hg.frozen 0
  clear hs
  go_enter Tryz.func141, Tryz.ntmps141
  go_wp2
  go_ret
  refine ⟨by simp, ?_, ((Ch.refl g w).setCell 0 _).setCell 0 _⟩
  have hb2 := (hg.set_ 0 (.int .u64 (s : Int))).set_ 0 (.int .u64 ((s / 4294967296 : Nat) : Int))
  simpa using hb2

set_option maxHeartbeats 400000 in
theorem subtracter1_any (x y c g : Nat) (w : World) (hx : x < 4294967296) (hy : y < 4294967296) (hc : c ≤ 1) (hg : Blk w g 84 [.int .u64 (c : Int)]) :
    Calls Tryz.prog 194 #[.int .u32 (x : Int), .int .u32 (y : Int), .pointer (some ⟨g, 0, none⟩)] w fun e w' => e = .returned (.int .u32 (((4294967296 + x - y - c) % 4294967296 : Nat) : Int)) ∧ Blk w' g 84 [.int .u64 ((1 - (4294967296 + x - y - c) / 4294967296 : Nat) : Int)] ∧ Ch g w w' := by
  obtain ⟨s, hs⟩ : ∃ s, s = (18446744073709551616 + x - y - c) % 18446744073709551616 := ⟨_, rfl⟩
  have e1 : IntKind.u64.wrap (IntKind.u64.wrap ((x : Int) - (y : Int)) - (c : Int)) = (s : Int) := by
    rw [IntKind.wrap_u64, IntKind.wrap_u64]; omega
  have hb : s < 18446744073709551616 := by omega
  have c1 := hg.cell0
  have f1 := hg.frozen 0
  have e2 : (4294967296 + x - y - c) % 4294967296 = s % 4294967296 := by omega
  have e3 : 1 - (4294967296 + x - y - c) / 4294967296 = s / 9223372036854775808 := by omega
  rw [e2, e3]
  have He1 := Lib.hid e1
  clear hs e1 e2 e3
  go_enter Tryz.func194, Tryz.ntmps194
  go_wp2
  rw [He1.out]
  go_wp2
  go_ret
  refine ⟨by simp, ?_, (Ch.refl g w).setCell 0 _⟩
  have hb2 := hg.set_ 0 (.int .u64 ((s / 9223372036854775808 : Nat) : Int))
  simpa using hb2

set_option maxHeartbeats 400000 in
theorem scaler1_any (x n c g h : Nat) (w : World) (hx : x < 4294967296) (hn : n < 4294967296) (hc : c < 4294967296) (hg : Blk w g 84 [.int .u64 (c : Int)]) (hh : Blk w h 27 [.int .u32 (n : Int)]) (hne : h ≠ g) :
    Calls Tryz.prog 155 #[.int .u32 (x : Int), .pointer (some ⟨g, 0, none⟩), .pointer (some ⟨h, 0, none⟩)] w fun e w' => e = .returned (.int .u32 (((c + x * n) % 4294967296 : Nat) : Int)) ∧ Blk w' g 84 [.int .u64 (((c + x * n) / 4294967296 : Nat) : Int)] ∧ Ch g w w' := by
  obtain ⟨p, hp⟩ : ∃ p, p = x * n := ⟨_, rfl⟩
  have hpb : p ≤ 4294967295 * 4294967295 := by rw [hp]; exact Nat.mul_le_mul (by omega) (by omega)
  obtain ⟨s, hs⟩ : ∃ s, s = c + p := ⟨_, rfl⟩
  rw [← hp, ← hs]
  have e0 : (x : Int) * (n : Int) = (p : Int) := by rw [hp]; simp
  have e1 : (c : Int) + (p : Int) = (s : Int) := by omega
  have hb : s < 18446744073709551616 := by omega
  have c1 := hg.cell0
  have c2 := hh.cell0
  have f1 := hg.frozen 0
  have e2 : ¬ (h = g) := hne
  clear hs hp
  go_enter Tryz.func155, Tryz.ntmps155
  go_wp2
  go_ret
  refine ⟨by simp, ?_, ((Ch.refl g w).setCell 0 _).setCell 0 _⟩
  have hb2 := (hg.set_ 0 (.int .u64 (s : Int))).set_ 0 (.int .u64 ((s / 4294967296 : Nat) : Int))
  simpa using hb2

theorem add64_run0 (x y : Nat) (w : World) :
    (callFunc 180 #[.int .u64 (x : Int), .int .u64 (y : Int), .int .u64 0]).run Tryz.prog w =
      .ok (.value (.tuple #[.int .u64 (((x + y) % 18446744073709551616 : Nat) : Int), .int .u64 (((x + y) / 18446744073709551616 : Nat) : Int)])) w := add64_run x y 0 (by omega) w
theorem sub64_run0 (x y : Nat) (w : World) :
    (callFunc 181 #[.int .u64 (x : Int), .int .u64 (y : Int), .int .u64 0]).run Tryz.prog w =
      .ok (.value (.tuple #[.int .u64 (((x + 18446744073709551616 - y) % 18446744073709551616 : Nat) : Int), .int .u64 ((if x < y then 1 else 0 : Nat) : Int)])) w := sub64_run x y 0 (by omega) w

set_option maxHeartbeats 400000 in
theorem multiplier1_any (x y n c g h : Nat) (w : World) (hx : x < 18446744073709551616) (hy : y < 18446744073709551616) (hn : n < 18446744073709551616) (hc : c < 18446744073709551616) (hg : Blk w g 84 [.int .u64 (c : Int)]) (hh : Blk w h 84 [.int .u64 (n : Int)]) (hne : h ≠ g) :
    Calls Tryz.prog 195 #[.int .u64 (x : Int), .int .u64 (y : Int), .pointer (some ⟨h, 0, none⟩), .pointer (some ⟨g, 0, none⟩)] w fun e w' => e = .returned (.int .u64 (((c + x * n + y) % 18446744073709551616 : Nat) : Int)) ∧ Blk w' g 84 [.int .u64 (((c + x * n + y) / 18446744073709551616 : Nat) : Int)] ∧ Ch g w w' := by
  have hpb : x * n ≤ 18446744073709551615 * 18446744073709551615 := Nat.mul_le_mul (by omega) (by omega)
  have hmul := fun W => mul64_any x n W hx hn
  obtain ⟨hi, hhi⟩ : ∃ hi, hi = x * n / 18446744073709551616 := ⟨_, rfl⟩
  obtain ⟨lo, hlo⟩ : ∃ lo, lo = x * n % 18446744073709551616 := ⟨_, rfl⟩
  have e0 : x * n = hi * 18446744073709551616 + lo := by rw [hhi, hlo]; omega
  rw [e0] at hpb ⊢
  rw [← hhi, ← hlo] at hmul
  have hlb : lo < 18446744073709551616 := by rw [hlo]; omega
  clear hhi hlo e0
  have a1 := fun W => add64_run0 lo y W
  obtain ⟨l1, hl1⟩ : ∃ l1, l1 = (lo + y) % 18446744073709551616 := ⟨_, rfl⟩
  obtain ⟨o1, ho1⟩ : ∃ o1, o1 = (lo + y) / 18446744073709551616 := ⟨_, rfl⟩
  rw [← hl1, ← ho1] at a1
  have a2 := fun W => add64_run0 l1 c W
  obtain ⟨l2, hl2⟩ : ∃ l2, l2 = (l1 + c) % 18446744073709551616 := ⟨_, rfl⟩
  obtain ⟨o2, ho2⟩ : ∃ o2, o2 = (l1 + c) / 18446744073709551616 := ⟨_, rfl⟩
  rw [← hl2, ← ho2] at a2
  have r1 : (c + (hi * 18446744073709551616 + lo) + y) % 18446744073709551616 = l2 := by omega
  have r2 : (c + (hi * 18446744073709551616 + lo) + y) / 18446744073709551616 = hi + o1 + o2 := by omega
  rw [r1, r2]
  have b1 : hi + o1 < 18446744073709551616 := by omega
  have b2 : hi + o1 + o2 < 18446744073709551616 := by omega
  have c1 := hg.cell0
  have c2 := hh.cell0
  have f1 := hg.frozen 0
  have e2 : ¬ (h = g) := hne
  clear hl1 ho1 hl2 ho2 r1 r2 hpb
  go_enter Tryz.func195, Tryz.ntmps195
  go_wp2_with (first
    | (go_at_call 114; (with_reducible refine (hmul _).mono ?_); rintro e w' ⟨rfl, rfl⟩)
    | (simp only [])
    | (simp only [a2]))
  go_ret
  refine ⟨by simp, ?_, (Ch.refl g w).setCell 0 _⟩
  have hb2 := hg.set_ 0 (.int .u64 ((hi + o1 + o2 : Nat) : Int))
  simpa using hb2
end
section
open Go.RowKit

theorem szA (w : World) (o : Obj) : (w.alloc o).heap.size = w.heap.size + 1 := by simp
theorem mk32s (n : Nat) (h : n + 1 ≤ 70368744177664) (W : World) : (Instr.makeSlice 34 (.int .i64 ((n : Int) + 1)) (.int .i64 ((n : Int) + 1))).run Tryz.prog W = .ok (.slice (some ⟨W.heap.size, 0, none⟩) (n + 1) (n + 1)) (W.alloc (.cells (List.replicate (n + 1) (Value.int .u32 0)).toArray 27)) := by
  have := mk32 (n + 1) h W
  rwa [show ((n + 1 : Nat) : Int) = (n : Int) + 1 from by omega] at this
theorem u32s_ne {xs : List Nat} {k : Nat} (h : k < xs.length) : u32s xs ≠ [] := by intro e; have := u32s_length xs; rw [e] at this; simp at this; omega
theorem u64s_ne {xs : List Nat} {k : Nat} (h : k < xs.length) : u64s xs ≠ [] := by intro e; have := u64s_length xs; rw [e] at this; simp at this; omega
theorem Rd.at32 {w : World} {B : Nat} {A : Option Addr} {xs : List Nat} (h : Rd w B A (u32s xs)) {k : Nat} (hk : k < xs.length) : ∃ b off, A = some ⟨b, off, none⟩ ∧ b < B ∧ w.cell? ⟨b, off + k, none⟩ = some (.int .u32 (xs[k] : Nat)) := by
  obtain ⟨b, off, e, hb, hc⟩ := h (u32s_ne hk)
  exact ⟨b, off, e, hb, hc k _ (u32s_at hk)⟩
theorem Rd.at64 {w : World} {B : Nat} {A : Option Addr} {xs : List Nat} (h : Rd w B A (u64s xs)) {k : Nat} (hk : k < xs.length) : ∃ b off, A = some ⟨b, off, none⟩ ∧ b < B ∧ w.cell? ⟨b, off + k, none⟩ = some (.int .u64 (xs[k] : Nat)) := by
  obtain ⟨b, off, e, hb, hc⟩ := h (u64s_ne hk)
  exact ⟨b, off, e, hb, hc k _ (u64s_at hk)⟩
theorem Rx.at64 {w : World} {g : Nat} {A : Option Addr} {xs : List Nat} (h : Rx w g A (u64s xs)) {k : Nat} (hk : k < xs.length) : ∃ b off, A = some ⟨b, off, none⟩ ∧ b < w.heap.size ∧ b ≠ g ∧ w.cell? ⟨b, off + k, none⟩ = some (.int .u64 (xs[k] : Nat)) := by
  obtain ⟨b, off, e, hb, hg, hc⟩ := h (u64s_ne hk)
  exact ⟨b, off, e, hb, hg, hc k _ (u64s_at hk)⟩

theorem Acc.done {b : Nat} {os zs : List Nat} {T k c : Nat} (h : Acc b os T k zs c) (hc : c = 0) : val b zs = val b os + T := by
  have := h.2.2.1; rw [hc] at this; simpa using this
theorem add_T {b : Nat} {us vs : List Nat} {k : Nat} (hu : k < us.length) (hv : k < vs.length) : val b (us.take k) + val b (vs.take k) + b ^ k * (us[k] + vs[k]) = val b (us.take (k + 1)) + val b (vs.take (k + 1)) := by
  rw [val_take_succ b us k hu, val_take_succ b vs k hv, Nat.mul_add]; omega
theorem add_T1 {b : Nat} {us : List Nat} {k V : Nat} (hu : k < us.length) : val b (us.take k) + V + b ^ k * us[k] = val b (us.take (k + 1)) + V := by
  rw [val_take_succ b us k hu]; omega

set_option maxHeartbeats 1600000 in
theorem add_any (A A2 : Option Addr) (c c2 : Nat) (xs ys : List Nat) (w : World) (B : Nat) (hr : Rd w B A (u32s xs)) (hr2 : Rd w B A2 (u32s ys)) (hB : B ≤ w.heap.size) (hd : Dig 4294967296 xs) (hd2 : Dig 4294967296 ys) (hc : xs.length ≤ c) (hc2 : ys.length ≤ c2) (hm : xs.length ≤ 70368744170000) (hm2 : ys.length ≤ 70368744170000) :
    Calls Tryz.prog 78 #[.slice A xs.length c, .slice A2 ys.length c2] w fun e w' => ∃ zs A' c', e = .returned (.slice A' zs.length c') ∧ Num 4294967296 zs (val 4294967296 xs + val 4294967296 ys) ∧ Res w' w.heap.size 27 A' c' (u32s zs) ∧ Below w.heap.size w w' := by
  have hl1 := trimL_length_le xs
  have hl2 := trimL_length_le ys
  obtain ⟨m, hmv⟩ : ∃ m, m = val 4294967296 xs := ⟨_, rfl⟩
  obtain ⟨n, hnv⟩ : ∃ n, n = val 4294967296 ys := ⟨_, rfl⟩
  have hn1 := Num.of_trim hd
  have hn2 := Num.of_trim hd2
  rw [← hmv] at hn1
  rw [← hnv] at hn2
  rw [← hmv, ← hnv]
  have hrt : Rd w B A (u32s (trimL xs)) := by rw [u32s_trim]; exact hr.take _
  have hrt2 : Rd w B A2 (u32s (trimL ys)) := by rw [u32s_trim]; exact hr2.take _
  obtain ⟨ps, hps⟩ : ∃ ps, ps = trimL xs := ⟨_, rfl⟩
  obtain ⟨qs, hqs⟩ : ∃ qs, qs = trimL ys := ⟨_, rfl⟩
  rw [← hps] at hn1 hrt hl1
  rw [← hqs] at hn2 hrt2 hl2
  have Hps := Lib.hid hps
  have Hqs := Lib.hid hqs
  have Hv : Hid (val 4294967296 ps + val 4294967296 qs = m + n) := by rw [hn1.2.2, hn2.2.2]; exact rfl
  have hdp := hn1.1
  have hdq := hn2.1
  have hm' : xs.length ≤ 281474976710656 := by omega
  have hm2' : ys.length ≤ 281474976710656 := by omega
  clear hps hqs hmv hnv hn1 hn2
  go_enter Tryz.func78, Tryz.ntmps78
  go_upto_if 18 with (first
    | (go_at_call 103; (with_reducible refine (trim_any A c xs _ B hr hc hm').mono ?_); rintro e w' ⟨rfl, rfl⟩; rw [← Hps.out])
    | (go_at_call 103; (with_reducible refine (trim_any A2 c2 ys _ B hr2 hc2 hm2').mono ?_); rintro e w' ⟨rfl, rfl⟩; rw [← Hqs.out]))
  go_cut [0, 1] (fun s0 s1 wc => ∃ (D D2 : Option Addr) (d d2 : Nat) (us vs : List Nat), s0 = .slice D us.length d ∧ s1 = .slice D2 vs.length d2 ∧ vs.length ≤ us.length ∧ us.length ≤ 70368744170000 ∧ Dig 4294967296 us ∧ Dig 4294967296 vs ∧ Hid (val 4294967296 us + val 4294967296 vs = m + n) ∧ Rd w B D (u32s us) ∧ Rd w B D2 (u32s vs) ∧ wc = w)
  case first =>
    by_cases hlt : ps.length < qs.length
    · go_wp2
      go_meet
      exact ⟨A2, A, c2, c, qs, ps, rfl, rfl, by omega, by omega, hdq, hdp, by rw [Nat.add_comm]; exact Hv, hrt2, hrt, rfl⟩
    · go_wp2
      go_meet
      exact ⟨A, A2, c, c2, ps, qs, rfl, rfl, by omega, by omega, hdp, hdq, Hv, hrt, hrt2, rfl⟩
  case rest =>
    clear hr hr2 hd hd2 hc hc2 hm hm2 hl1 hl2 hrt hrt2 Hps Hqs Hv hdp hdq hm' hm2'
    obtain ⟨D, D2, d, d2, us, vs, rfl, rfl, hle, hub, hdu, hdv, Hval, hru, hrv, rfl⟩ := hcut
    have hmk := fun W => mk32s us.length (by omega) W
    go_wp2_with (go_at_call 113; (with_reducible refine (adder_any _).mono ?_); rintro e w1 ⟨rfl, hbc, hsz, hbel⟩)
    rw [szA] at hbc hsz hbel
    have hblk0 : Blk w1 wc.heap.size 27 (u32s (List.replicate (us.length + 1) 0)) := by
      have h0 : Blk (wc.alloc (.cells (Array.replicate (us.length + 1) (Value.int .u32 0)) 27)) wc.heap.size 27 (u32s (List.replicate (us.length + 1) 0)) := Blk.new_ (by simp [u32s])
      exact h0.below hbel (by omega)
    have hbel1 : Below wc.heap.size wc w1 := ((Below.refl _ _).alloc (Nat.le_refl _) _).trans (hbel.mono (by omega))
    clear hbel hsz
    obtain ⟨os, hos⟩ : ∃ os, os = List.replicate (us.length + 1) 0 := ⟨_, rfl⟩
    have hol : os.length = us.length + 1 := by rw [hos]; simp
    have ho0 : Hid (∀ k (h : k < os.length), os[k] = 0) := by subst hos; exact fun k h => by simp
    have hov : Hid (val 4294967296 os = 0) := by rw [hos]; exact val_zeros _ _
    have hod : Dig 4294967296 os := by rw [hos]; exact Dig.zeros_ (by omega) _
    rw [← hos] at hblk0
    have Hol := Lib.hid hol
    clear hos hol
    go_loopw [7, 8, 28] (fun _ _ i wr => ∃ (k cc : Nat) (zs : List Nat), k ≤ vs.length ∧ i = .int .i64 k ∧ cc ≤ 1 ∧ Blk wr wc.heap.size 27 (u32s zs) ∧ Blk wr (wc.heap.size + 1) 84 [.int .u64 (cc : Int)] ∧ Acc 4294967296 os (val 4294967296 (us.take k) + val 4294967296 (vs.take k)) k zs cc ∧ Below wc.heap.size wc wr) (fun _ _ i _ => vs.length - (intOf i).toNat)
    case atStart => exact ⟨0, 0, os, by omega, rfl, by omega, hblk0, hbc, by simpa [val] using Acc.start hod, hbel1⟩
    case round =>
      clear hblk0 hbc hbel1
      obtain ⟨k, cc, zs, hk, rfl, hcc, hblk, hbc, hacc, hbel⟩ := hrel
      by_cases hlt : k < vs.length
      · have hku : k < us.length := by omega
        obtain ⟨b, off, rfl, hb, hx⟩ := hru.at32 hku
        obtain ⟨b2, off2, rfl, hb2, hy⟩ := hrv.at32 hlt
        have hx := (hbel.cell (p := ⟨b, off + k, none⟩) (show b < _ by omega)).trans hx
        have hy := (hbel.cell (p := ⟨b2, off2 + k, none⟩) (show b2 < _ by omega)).trans hy
        have hxd := hdu.at_ k hku
        have hyd := hdv.at_ k hlt
        have hz1 : k < zs.length := by have := hacc.2.1.trans Hol.out; omega
        have hko : k < os.length := by have := Hol.out; omega
        go_wp2_with (go_at_call 141; (with_reducible refine (adder1_any _ _ cc _ _ hxd hyd hcc hbc).mono ?_); rintro e w2 ⟨rfl, hg2, hch⟩; have hq2 := hblk.ch hch (by omega); have hc2 := (hq2.cell k).trans (u32s_at hz1); have hf2 := hq2.frozen k)
        go_roundw
        case rel =>
          refine ⟨k + 1, (cc + us[k] + vs[k]) / 4294967296, zs.set k ((cc + us[k] + vs[k]) % 4294967296), by omega, by go_num, ?_, ?_, hg2.far (p := ⟨wc.heap.size, k, none⟩) (by simp) _, ?_, (hbel.trans (hch.below (by omega))).setCell (p := ⟨wc.heap.size, k, none⟩) (Nat.le_refl _) _⟩
          · omega
          · have hb2 := hq2.set_ k (Value.int IntKind.u32 (((cc + us[k] + vs[k]) % 4294967296 : Nat) : Int))
            rw [u32s_set] at hb2
            exact hb2
          · have h9 := hacc.step (d := us[k] + vs[k]) (r := (cc + us[k] + vs[k]) % 4294967296) (q := (cc + us[k] + vs[k]) / 4294967296) hko (by omega) (by rw [ho0.out k hko]; omega)
            rw [add_T hku hlt] at h9
            exact h9
        case measure => simp [intOf]; omega
      · obtain rfl : k = vs.length := by omega
        go_wp2_with fail
        go_loopw [9] (fun i wr => ∃ (k cc : Nat) (zs : List Nat), vs.length ≤ k ∧ k ≤ us.length ∧ i = .int .i64 k ∧ cc ≤ 1 ∧ Blk wr wc.heap.size 27 (u32s zs) ∧ Blk wr (wc.heap.size + 1) 84 [.int .u64 (cc : Int)] ∧ Acc 4294967296 os (val 4294967296 (us.take k) + val 4294967296 vs) k zs cc ∧ Below wc.heap.size wc wr) (fun i _ => us.length - (intOf i).toNat)
        case atStart => exact ⟨vs.length, cc, zs, by omega, hle, rfl, hcc, hblk, hbc, by rw [List.take_length] at hacc; exact hacc, hbel⟩
        case round =>
          clear hblk hbc hacc hbel hcc
          obtain ⟨k, cc, zs, hkv, hk, rfl, hcc, hblk, hbc, hacc, hbel⟩ := hrel
          by_cases hlt : k < us.length
          · obtain ⟨b, off, rfl, hb, hx⟩ := hru.at32 hlt
            have hx := (hbel.cell (p := ⟨b, off + k, none⟩) (show b < _ by omega)).trans hx
            have hxd := hdu.at_ k hlt
            have hz1 : k < zs.length := by have := hacc.2.1.trans Hol.out; omega
            have hko : k < os.length := by have := Hol.out; omega
            go_wp2_with fail
            refine (adder1_any us[k] 0 cc _ _ hxd (by omega) hcc hbc).mono ?_
            rintro e w2 ⟨rfl, hg2, hch⟩
            have hq2 := hblk.ch hch (by omega)
            have hc2 := (hq2.cell k).trans (u32s_at hz1)
            have hf2 := hq2.frozen k
            go_wp2_with fail
            go_roundw
            case rel =>
              refine ⟨k + 1, (cc + us[k] + 0) / 4294967296, zs.set k ((cc + us[k] + 0) % 4294967296), by omega, by omega, by go_num, ?_, ?_, hg2.far (p := ⟨wc.heap.size, k, none⟩) (by simp) _, ?_, (hbel.trans (hch.below (by omega))).setCell (p := ⟨wc.heap.size, k, none⟩) (Nat.le_refl _) _⟩
              · omega
              · have hb2 := hq2.set_ k (Value.int IntKind.u32 (((cc + us[k] + 0) % 4294967296 : Nat) : Int))
                rw [u32s_set] at hb2
                exact hb2
              · have h9 := hacc.step (d := us[k]) (r := (cc + us[k] + 0) % 4294967296) (q := (cc + us[k] + 0) / 4294967296) hko (by omega) (by rw [ho0.out k hko]; omega)
                rw [add_T1 hlt] at h9
                exact h9
            case measure => simp [intOf]; omega
          · obtain rfl : k = us.length := by omega
            have hz1 : us.length < zs.length := by have := hacc.2.1.trans Hol.out; omega
            have hko : us.length < os.length := by have := Hol.out; omega
            go_wp2_with fail
            refine (adder1_any 0 0 cc _ _ (by omega) (by omega) hcc hbc).mono ?_
            rintro e w2 ⟨rfl, hg2, hch⟩
            have hq2 := hblk.ch hch (by omega)
            have hc2 := (hq2.cell us.length).trans (u32s_at hz1)
            have hf2 := hq2.frozen us.length
            have hb2 : Blk (w2.setCell ⟨wc.heap.size, us.length, none⟩ (.int .u32 (((cc + 0 + 0) % 4294967296 : Nat) : Int))) wc.heap.size 27 (u32s (zs.set us.length ((cc + 0 + 0) % 4294967296))) := by
              have := hq2.set_ us.length (Value.int IntKind.u32 (((cc + 0 + 0) % 4294967296 : Nat) : Int))
              rwa [u32s_set] at this
            have h9 := hacc.step (d := 0) (r := (cc + 0 + 0) % 4294967296) (q := (cc + 0 + 0) / 4294967296) hko (by omega) (by rw [ho0.out _ hko]; omega)
            obtain ⟨zs2, hzs2⟩ : ∃ zs2, zs2 = zs.set us.length ((cc + 0 + 0) % 4294967296) := ⟨_, rfl⟩
            rw [← hzs2] at hb2 h9
            have hl2 : Hid (zs2.length = us.length + 1) := h9.2.1.trans Hol.out
            have hm2 : zs2.length ≤ 281474976710656 := by have := hl2.out; omega
            have Hlv : Hid (val 4294967296 zs2 = m + n) := by
              have := h9.done (by omega)
              rw [hov.out, List.take_length, Nat.mul_zero, Nat.add_zero, Nat.zero_add, Hval.out] at this
              exact this
            have ld := h9.1
            have hbel3 := (hbel.trans (hch.below (B := wc.heap.size) (by omega))).setCell (p := ⟨wc.heap.size, us.length, none⟩) (Nat.le_refl _) (.int .u32 (((cc + 0 + 0) % 4294967296 : Nat) : Int))
            clear hzs2 h9
            have hrd := (Res.of_blk0 hb2 (Nat.le_refl _) (by rw [u32s_length]; omega)).rd
            go_wp2_with (go_at_call 103; rw [← hl2.out]; refine (trim_any _ _ zs2 _ _ hrd (Nat.le_refl _) hm2).mono ?_; rintro e w3 ⟨rfl, rfl⟩)
            go_ret
            refine ⟨trimL zs2, _, _, rfl, ?_, ?_, hbel3⟩
            · have hz := Num.of_trim ld
              rw [Hlv.out] at hz
              exact hz
            · have h3 := (Res.of_blk0 hb2 (Nat.le_refl _) (by rw [u32s_length]; omega)).take (trimL zs2).length
              rw [← u32s_trim, u32s_length] at h3
              exact h3
end
end Go.Proofs.YtadpelhmjmamnaaGreatDoor
