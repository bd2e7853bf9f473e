/- The contracts of word, wide, narrow, Norm, Of. The contracts of order and Cmp. The library's bits functions at this translation, in the spe. The contracts of adder, subtracter, scaler, multiplier and t. -/
import Derived.Test.YtbcphifjcaobfaaGreatDoorPkRp0
import Derived.RegionTactic
import Derived.Laws.CopyOwn
import Derived.Deep.QuietTactic
import Derived.BigQuiet
import Derived.Test.YtbcphifjcaobfaaGreatDoorShelf
import Derived.Lib.ItoaNum
import Derived.Shelf.Spec.BitsCarry
namespace Go.Proofs.YtbcphifjcaobfaaGreatDoor
section
open Go.RowKit
theorem one_u32s (xs : List Nat) : ∀ v ∈ u32s xs, v.oneCell' = true := by
 intro v hv; obtain ⟨x, _, rfl⟩ := List.mem_map.1 hv; rfl
theorem one_u64s (xs : List Nat) : ∀ v ∈ u64s xs, v.oneCell' = true := by
 intro v hv; obtain ⟨x, _, rfl⟩ := List.mem_map.1 hv; rfl
set_option maxHeartbeats 400000 in
theorem norm_any (A : Option Addr) (c : Nat) (xs : List Nat) (w : World) (B : Nat) (hr : Rd w B A (u32s xs)) (hB : B ≤ w.heap.size) (hc : xs.length ≤ c) (hm : xs.length ≤ 70368744177664) :
  Calls Tryz.prog 117 #[.slice A xs.length c] w fun e w' => ∃ A' c', e = .returned (.slice A' (trimL xs).length c') ∧ Res w' w.heap.size 50 A' c' (u32s (trimL xs)) ∧ Below w.heap.size w w' := by
 have hl := trimL_length_le xs
 have hmk := fun W => mk32 (trimL xs).length (by omega) W
 by_cases h0 : trimL xs = []
 ·have hl0 : ((trimL xs).length : Int) = 0 := by rw [h0]; rfl
  have hl1 : (trimL xs).length = 0 := by rw [h0]; rfl
  have H0 := hi9 h0; clear h0
  have Hl := hi9 hl1; clear hl1
  clear hmk
  go_enter Tryz.func117, Tryz.ntmps117
  go_wp2_with (go_at_call 128; refine (trim_any A c xs w B hr hc (by omega)).mono ?_; rintro e w' ⟨rfl, rfl⟩)
  go_ret
  exact ⟨none, 0, by rw [Hl.out]; rfl, by rw [H0.out]; exact Res.none_, br9⟩
 ·have hne : ((trimL xs).length : Int) ≠ 0 := by intro e; exact h0 (List.eq_nil_of_length_eq_zero (by omega))
  have hb : (((trimL xs).length : Int) == 0) = false := by simpa using hne
  have hpos : 0 < (trimL xs).length := by omega
  clear hne h0
  obtain ⟨b, off, rfl, hbB, hcell⟩ := hr (by intro e; have := u32s_length xs; rw [e] at this; simp at this; omega)
  go_enter Tryz.func117, Tryz.ntmps117
  go_wp2_with (first
   | (go_at_call 128; refine (trim_any _ c xs w B hr hc (by omega)).mono ?_; rintro e w' ⟨rfl, rfl⟩)
   | ((with_reducible refine wpList_copy_splice (o := ⟨some 14, _, _, _, _, _⟩) rfl _ _ _ _ rfl 50 Tryz.underlying23 ?u1 _ _ _ _ _ _ rfl rfl w.heap.size 0 (List.replicate (trimL xs).length (Value.int .u32 0)) 50 ?c1 ((u32s xs).take (trimL xs).length) ?c2 ?c3 ?c4 ?c5 w.heap.size w ?c6 nl9 ?_); rotate_right; intro w2 hg2 hb2))
  case u1 => kernel_rfl
  case c1 => exact Blk.new_ (by simp)
  case c2 => rw [List.length_take, u32s_length]; simp; omega
  case c3 =>
   intro _ j v hv
   rw [World.cell?_alloc_past _ _ _ (by show b < _; omega)]
   refine hcell j v ?_
   rw [List.getElem?_take] at hv
   split at hv
   ·exact hv
   ·cases hv
  case c4 => rw [List.length_take, u32s_length, List.length_replicate]; omega
  case c5 => exact fun v hv => one_u32s xs v (List.mem_of_mem_take hv)
  case c6 => exact br9.alloc nl9 _
  go_ret
  refine ⟨_, _, rfl, ?_, hb2⟩
  have e : splice (List.replicate (trimL xs).length (Value.int .u32 0)) 0 ((u32s xs).take (trimL xs).length) = u32s (trimL xs) := by
   rw [u32s_trim]
   simp [splice, u32s_length]
   omega
  have h2 : Blk w2 w.heap.size 50 (u32s (trimL xs)) := by rw [← e]; exact hg2.out
  have hr2 := Res.of_blk0 h2 nl9 (by rw [u32s_length]; omega)
  rw [u32s_length] at hr2
  exact hr2
theorem or_shift (x y i : Nat) (hx : x < 2 ^ i) : y * 2 ^ i ||| x = x + 2 ^ i * y := by
 rw [Nat.mul_comm, ← Nat.two_pow_add_eq_or_of_lt hx]; omega
theorem word_or (x y : Nat) (hx : x < 4294967296) (hy : y < 4294967296) : bits .or .u64 ((y : Int) * 4294967296) (x : Int) = ((x + 4294967296 * y : Nat) : Int) := by
 have e := u64_or_nat (y * 4294967296) x (by omega) (by omega)
 rw [show ((y : Int) * 4294967296) = ((y * 4294967296 : Nat) : Int) from by omega, e]
 have := or_shift x y 32 (by omega)
 rw [show (2 : Nat) ^ 32 = 4294967296 from rfl] at this
 rw [this]
theorem len_two {xs : List Nat} (h : xs.length = 2) : ∃ x y, xs = [x, y] := by
 match xs, h with
 | [x, y], _ => exact ⟨x, y, rfl⟩
theorem len_one {xs : List Nat} (h : xs.length = 1) : ∃ x, xs = [x] := by
 match xs, h with
 | [x], _ => exact ⟨x, rfl⟩
set_option maxHeartbeats 400000 in
theorem word_any (A : Option Addr) (c : Nat) (xs : List Nat) (w : World) (B : Nat) (hr : Rd w B A (u32s xs)) (hd : Dig 4294967296 xs) (hm : xs.length ≤ 2) :
  Calls Tryz.prog 132 #[.slice A xs.length c] w fun e w' => e = .returned (.int .u64 (val 4294967296 xs : Nat)) ∧ Dr w w' := by
 rcases Nat.lt_or_ge xs.length 1 with h0 | h0
 ·obtain rfl : xs = [] := List.eq_nil_of_length_eq_zero (by omega)
  go_enter Tryz.func132, Tryz.ntmps132
  go_wp2
  go_ret
  exact ⟨rfl, Dr.refl _⟩
 rcases Nat.lt_or_ge xs.length 2 with h1 | h1
 ·obtain ⟨x, rfl⟩ := len_one (xs := xs) (by omega)
  obtain ⟨b, off, rfl, hb, hcell⟩ := hr (by simp [u32s])
  have c0 := hcell 0 _ rfl
  simp only [Nat.add_zero] at c0
  have hx : x < 4294967296 := hd.head_
  clear hcell hr
  go_enter Tryz.func132, Tryz.ntmps132
  go_wp2
  go_ret
  exact ⟨by simp [val], Dr.refl _⟩
 ·obtain ⟨x, y, rfl⟩ := len_two (xs := xs) (by omega)
  obtain ⟨b, off, rfl, hb, hcell⟩ := hr (by simp [u32s])
  have c0 := hcell 0 _ rfl
  have c1 := hcell 1 _ rfl
  simp only [Nat.add_zero] at c0
  have hx : x < 4294967296 := hd.head_
  have hy : y < 4294967296 := hd.tail_.head_
  clear hcell hr
  go_enter Tryz.func132, Tryz.ntmps132
  go_wp2
  go_quiet (fail)
  go_wp2
  go_ret
  refine ⟨?_, (Dr.refl _).step _⟩
  show Ending.returned (.int .u64 (bits .or .u64 ((y : Int) * 4294967296) (x : Int))) = _
  rw [word_or x y hx hy]
  simp [val]
theorem or_zero_wrap (x : Nat) (h : x < 4294967296) : bits BinOp.or IntKind.u64 0 (IntKind.u64.wrap (IntKind.u64.wrap (x : Int))) = (x : Int) := by
 have e := u64_or_nat 0 x (by omega) (by omega)
 rw [IntKind.wrap_u64, IntKind.wrap_u64, show ((x : Int) % 18446744073709551616 % 18446744073709551616) = (x : Int) from by omega]
 simpa using e
theorem or_shift_wrap (y x : Nat) (hy : y < 4294967296) (hx : x < 4294967296) : bits BinOp.or IntKind.u64 (y : Int) (IntKind.u64.wrap (IntKind.u64.wrap (x : Int) * 4294967296)) = ((y + 4294967296 * x : Nat) : Int) := by
 rw [IntKind.wrap_u64, IntKind.wrap_u64, show ((x : Int) % 18446744073709551616 * 4294967296 % 18446744073709551616) = ((x * 4294967296 : Nat) : Int) from by omega, u64_or_nat y (x * 4294967296) (by omega) (by omega), Nat.or_comm]
 have := or_shift y x 32 (by omega)
 rw [show (2 : Nat) ^ 32 = 4294967296 from rfl] at this
 rw [this]
theorem u64s_set (xs : List Nat) (i v : Nat) : (u64s xs).set i (Value.int .u64 (v : Int)) = u64s (xs.set i v) := by simp [u64s, List.map_set]
theorem u32s_set (xs : List Nat) (i v : Nat) : (u32s xs).set i (Value.int .u32 (v : Int)) = u32s (xs.set i v) := by simp [u32s, List.map_set]
theorem pack_even {ys xs : List Nat} {j : Nat} (hk : 2 * j < xs.length) (hj : j < ys.length) (h0 : ys[j] = 0) (hv : val 18446744073709551616 ys = val 4294967296 (xs.take (2 * j))) :
  val 18446744073709551616 (ys.set j xs[2 * j]) = val 4294967296 (xs.take (2 * j + 1)) := by
 have h1 := val_set 18446744073709551616 ys j xs[2 * j] hj
 have h2 := val_take_succ 4294967296 xs (2 * j) hk
 rw [h0] at h1
 rw [h2, ← hv, Nat.pow_mul, show (4294967296 : Nat) ^ 2 = 18446744073709551616 from rfl]
 omega
theorem pack_odd {ys xs : List Nat} {j : Nat} (hk : 2 * j + 1 < xs.length) (hj : j < ys.length) (hv : val 18446744073709551616 ys = val 4294967296 (xs.take (2 * j + 1))) :
  val 18446744073709551616 (ys.set j (ys[j] + 4294967296 * xs[2 * j + 1])) = val 4294967296 (xs.take (2 * j + 1 + 1)) := by
 have h1 := val_set 18446744073709551616 ys j (ys[j] + 4294967296 * xs[2 * j + 1]) hj
 have h2 := val_take_succ 4294967296 xs (2 * j + 1) hk
 rw [h2, ← hv, Nat.pow_succ, Nat.pow_mul, show (4294967296 : Nat) ^ 2 = 18446744073709551616 from rfl, Nat.mul_assoc]
 rw [Nat.mul_add] at h1
 omega
def Packed (xs : List Nat) (k : Nat) (ys : List Nat) : Prop :=
 Dig 18446744073709551616 ys ∧ val 18446744073709551616 ys = val 4294967296 (xs.take k) ∧ (∀ j (h : j < ys.length), k ≤ 2 * j → ys[j] = 0) ∧ ∀ j (h : j < ys.length), k = 2 * j + 1 → ys[j] < 4294967296
theorem Packed.even {xs ys : List Nat} {j : Nat} (h : Packed xs (2 * j) ys) (hk : 2 * j < xs.length) (hj : j < ys.length) (hd : Dig 4294967296 xs) : Packed xs (2 * j + 1) (ys.set j xs[2 * j]) := by
 have hx := hd.at_ (2 * j) hk
 refine ⟨h.1.set_ _ _ (by omega), pack_even hk hj (h.2.2.1 j hj (by omega)) h.2.1, fun i hi hki => ?_, fun i hi hki => ?_⟩
 ·rw [List.getElem_set]
  rw [if_neg (by omega)]
  exact h.2.2.1 i (by simpa using hi) (by omega)
 ·obtain rfl : i = j := by omega
  simpa using hx
theorem Packed.odd {xs ys : List Nat} {j : Nat} (h : Packed xs (2 * j + 1) ys) (hk : 2 * j + 1 < xs.length) (hj : j < ys.length) (hd : Dig 4294967296 xs) : Packed xs (2 * j + 1 + 1) (ys.set j (ys[j] + 4294967296 * xs[2 * j + 1])) := by
 have hx := hd.at_ (2 * j + 1) hk
 have hy := h.2.2.2 j hj rfl
 refine ⟨h.1.set_ _ _ (by omega), pack_odd hk hj h.2.1, fun i hi hki => ?_, fun i hi hki => by omega⟩
 rw [List.getElem_set]
 rw [if_neg (by omega)]
 exact h.2.2.1 i (by simpa using hi) (by omega)
theorem Packed.start (xs : List Nat) (N : Nat) : Packed xs 0 (List.replicate N 0) :=
 ⟨Dig.zeros_ (by omega) _, by rw [val_zeros]; rfl, fun j h _ => by simp, fun j h e => by omega⟩
set_option maxHeartbeats 400000 in
theorem wide_any (A : Option Addr) (c : Nat) (xs : List Nat) (w : World) (B : Nat) (hr : Rd w B A (u32s xs)) (hB : B ≤ w.heap.size) (hd : Dig 4294967296 xs) (_ : xs.length ≤ c) (hm : xs.length ≤ 70368744177000) :
  Calls Tryz.prog 136 #[.slice A xs.length c] w fun e w' => ∃ ys A' c', e = .returned (.slice A' ys.length c') ∧ ys.length = (xs.length + 1) / 2 ∧ Dig 18446744073709551616 ys ∧ val 18446744073709551616 ys = val 4294967296 xs ∧ Res w' w.heap.size 116 A' c' (u64s ys) ∧ Below w.heap.size w w' := by
 obtain ⟨N, hN⟩ : ∃ N, N = (xs.length + 1) / 2 := ⟨_, rfl⟩
 have hmk := fun W => mk64 N (by omega) W
 have hq1 : ((xs.length : Int) + 1) / 2 = (N : Int) := by omega
 have hq2 : ((xs.length : Int) + 1).tdiv 2 = (N : Int) := by rw [Int.tdiv_eq_ediv_of_nonneg (by omega)]; omega
 have HN := hi9 hN; clear hN
 go_enter Tryz.func136, Tryz.ntmps136
 go_wp2
 go_loopw [4, 5, 13] (fun _ _ i wr => ∃ (k : Nat) (ys : List Nat), k ≤ xs.length ∧ i = .int .i64 k ∧ ys.length = N ∧ Blk wr w.heap.size 116 (u64s ys) ∧ Packed xs k ys ∧ Below w.heap.size w wr) (fun _ _ i _ => xs.length - (intOf i).toNat)
 case atStart => exact ⟨0, List.replicate N 0, by omega, rfl, by simp, Blk.new_ (by simp [u64s]), Packed.start _ _, br9.alloc nl9 _⟩
 case round =>
  obtain ⟨k, ys, hk, rfl, hyl, hblk, hpk, hbel⟩ := hrel
  by_cases hlt : k < xs.length
  ·obtain ⟨b, off, rfl, hb, hcell⟩ := hr (by intro e; have := u32s_length xs; rw [e] at this; simp at this; omega)
   have hx := (hbel.cell (p := ⟨b, off + k, none⟩) (show b < _ by omega)).trans (hcell k _ (u32s_at hlt))
   clear hcell
   rcases Nat.mod_two_eq_zero_or_one k with h2 | h2
   ·obtain ⟨j, rfl⟩ : ∃ j, k = 2 * j := ⟨k / 2, by omega⟩
    have HN' := HN.out
    have hj : j < ys.length := by omega
    have hcj := (hblk.cell j).trans (u64s_at hj)
    have hfj := hblk.frozen j
    have hz : ys[j] = 0 := hpk.2.2.1 j hj (by omega)
    rw [hz] at hcj
    clear h2 hz HN'
    go_wp2
    go_region
    all_goals
     go_wp2
     go_roundw
     case rel =>
      refine ⟨2 * j + 1, ys.set j xs[2 * j], by omega, by go_num, by simpa using hyl, ?_, hpk.even hlt hj hd, (hbel.setCell (p := ⟨w.heap.size, j, none⟩) nl9 _).drew⟩
      have hb2 := (hblk.set_ j (Value.int IntKind.u64 (bits BinOp.or IntKind.u64 0 (IntKind.u64.wrap (IntKind.u64.wrap ↑xs[2 * j]))))).drew
      rw [or_zero_wrap _ (hd.at_ _ hlt), u64s_set] at hb2
      rw [or_zero_wrap _ (hd.at_ _ hlt)]
      exact hb2
     case measure => simp [intOf]; omega
   ·obtain ⟨j, rfl⟩ : ∃ j, k = 2 * j + 1 := ⟨k / 2, by omega⟩
    have HN' := HN.out
    have hj : j < ys.length := by omega
    have hcj := (hblk.cell j).trans (u64s_at hj)
    have hfj := hblk.frozen j
    have e1 : (2 * j + 1) / 2 = j := by omega
    clear h2 HN'
    go_wp2
    go_region
    all_goals
     go_wp2
     go_roundw
     case rel =>
      refine ⟨2 * j + 1 + 1, ys.set j (ys[j] + 4294967296 * xs[2 * j + 1]), by omega, by go_num, by simpa using hyl, ?_, hpk.odd hlt hj hd, (hbel.setCell (p := ⟨w.heap.size, j, none⟩) nl9 _).drew⟩
      have hb2 := (hblk.set_ j (Value.int IntKind.u64 (bits BinOp.or IntKind.u64 (↑ys[j]) (IntKind.u64.wrap (IntKind.u64.wrap ↑xs[2 * j + 1] * 4294967296))))).drew
      rw [or_shift_wrap _ _ (hpk.2.2.2 j hj rfl) (hd.at_ _ hlt), u64s_set] at hb2
      rw [or_shift_wrap _ _ (hpk.2.2.2 j hj rfl) (hd.at_ _ hlt)]
      exact hb2
     case measure => simp [intOf]; omega
  ·go_wp2
   go_ret
   obtain rfl : k = xs.length := by omega
   refine ⟨ys, _, N, by rw [hyl]; rfl, by rw [hyl]; exact HN.out, hpk.1, by rw [hpk.2.1, List.take_length], ?_, hbel⟩
   have hN := HN.out
   have := Res.of_blk0 hblk nl9 (by rw [u64s_length]; omega)
   rw [u64s_length, hyl] at this
   exact this
def Unpacked (ws : List Nat) (k : Nat) (zs : List Nat) : Prop :=
 Dig 4294967296 zs ∧ val 4294967296 zs = val 18446744073709551616 (ws.take k) ∧ ∀ j (h : j < zs.length), 2 * k ≤ j → zs[j] = 0
theorem Unpacked.start (ws : List Nat) (n : Nat) : Unpacked ws 0 (List.replicate n 0) :=
 ⟨Dig.zeros_ (by omega) _, by rw [val_zeros]; rfl, fun j h _ => by simp⟩
theorem Unpacked.step {ws zs : List Nat} {k : Nat} (h : Unpacked ws k zs) (hk : k < ws.length) (hz : 2 * k + 1 < zs.length) (hx : ws[k] < 18446744073709551616) :
  Unpacked ws (k + 1) ((zs.set (2 * k) (ws[k] % 4294967296)).set (2 * k + 1) (ws[k] / 4294967296)) := by
 refine ⟨(h.1.set_ _ _ (by omega)).set_ _ _ (by omega), ?_, fun i hi hki => ?_⟩
 ·have h1 := val_set 4294967296 zs (2 * k) (ws[k] % 4294967296) (by omega)
  have h2 := val_set 4294967296 (zs.set (2 * k) (ws[k] % 4294967296)) (2 * k + 1) (ws[k] / 4294967296) (by simpa using hz)
  rw [h.2.2 (2 * k) (by omega) (by omega)] at h1
  rw [List.getElem_set, if_neg (by omega), h.2.2 (2 * k + 1) (by omega) (by omega)] at h2
  rw [val_take_succ _ _ _ hk, ← h.2.1]
  rw [Nat.pow_succ, Nat.pow_mul, show (4294967296 : Nat) ^ 2 = 18446744073709551616 from rfl] at h2
  rw [Nat.pow_mul, show (4294967296 : Nat) ^ 2 = 18446744073709551616 from rfl] at h1
  have e : 18446744073709551616 ^ k * ws[k] = 18446744073709551616 ^ k * (ws[k] % 4294967296) + 18446744073709551616 ^ k * 4294967296 * (ws[k] / 4294967296) := by
   rw [Nat.mul_assoc, ← Nat.mul_add, Nat.mod_add_div]
  omega
 ·rw [List.getElem_set, if_neg (by omega), List.getElem_set, if_neg (by omega)]
  exact h.2.2 i (by simpa using hi) (by omega)
set_option maxHeartbeats 400000 in
theorem narrow_any (A : Option Addr) (c : Nat) (ws : List Nat) (w : World) (B : Nat) (hr : Rd w B A (u64s ws)) (hB : B ≤ w.heap.size) (hd : Dig 18446744073709551616 ws) (hc : ws.length ≤ c) (hm : ws.length ≤ 35184372088832) :
  Calls Tryz.prog 133 #[.slice A ws.length c] w fun e w' => ∃ zs A' c', e = .returned (.slice A' zs.length c') ∧ Num 4294967296 zs (val 18446744073709551616 ws) ∧ Res w' w.heap.size 50 A' c' (u32s zs) ∧ Below w.heap.size w w' := by
 have hl := trimL_length_le ws
 by_cases h0 : trimL ws = []
 ·have hl0 : ((trimL ws).length : Int) = 0 := by rw [h0]; rfl
  have hv : val 18446744073709551616 ws = 0 := by rw [← val_trim, h0]; rfl
  have Hv := hi9 hv; clear hv h0
  go_enter Tryz.func133, Tryz.ntmps133
  go_wp2_with (go_at_call 157; refine (trimWords_any A c ws w B hr hc (by omega)).mono ?_; rintro e w' ⟨rfl, rfl⟩)
  go_ret
  exact ⟨[], none, 0, rfl, by rw [Hv.out]; exact Num.zero_ _, Res.none_, br9⟩
 ·have hne : ((trimL ws).length : Int) ≠ 0 := by intro e; exact h0 (List.eq_nil_of_length_eq_zero (by omega))
  have hb : (((trimL ws).length : Int) == 0) = false := by simpa using hne
  have hpos : 0 < (trimL ws).length := by omega
  clear hne h0
  obtain ⟨b, off, rfl, hbB, hcell⟩ := hr (by intro e; have := u64s_length ws; rw [e] at this; simp at this; omega)
  obtain ⟨ts, hts⟩ : ∃ ts, ts = trimL ws := ⟨_, rfl⟩
  have hd2 : Dig 18446744073709551616 ts := by rw [hts]; exact hd.trim_
  have hv2 : val 18446744073709551616 ts = val 18446744073709551616 ws := by rw [hts]; exact val_trim _ _
  have hcell2 : ∀ k (h : k < ts.length), w.cell? ⟨b, off + k, none⟩ = some (.int .u64 (ts[k] : Nat)) := fun k h => by
   refine hcell k _ ?_
   have e1 : (u64s ts)[k]? = (u64s ws)[k]? := by
    rw [hts, u64s_trim, List.getElem?_take, if_pos (by rw [← hts]; exact h)]
   rw [← e1]; exact u64s_at h
  rw [← hts] at hl hb hpos
  have Hts := hi9 hts
  have Hv2 := hi9 hv2
  have hmk : ∀ W : World, (Instr.makeSlice 23 (.int .i64 (2 * (ts.length : Int))) (.int .i64 (2 * (ts.length : Int)))).run Tryz.prog W = .ok (.slice (some ⟨W.heap.size, 0, none⟩) (2 * ts.length) (2 * ts.length)) (W.alloc (.cells (List.replicate (2 * ts.length) (Value.int .u32 0)).toArray 50)) := fun W => by
   have := mk32 (2 * ts.length) (by omega) W
   rwa [show ((2 * ts.length : Nat) : Int) = 2 * (ts.length : Int) from by omega] at this
  clear hcell hts hv2
  go_enter Tryz.func133, Tryz.ntmps133
  go_wp2_with (go_at_call 157; refine (trimWords_any _ c ws w B hr hc (by omega)).mono ?_; rintro e w' ⟨rfl, rfl⟩; rw [← Hts.out])
  go_loopw [4, 5, 17] (fun _ _ i wr => ∃ (k : Nat) (zs : List Nat), k ≤ ts.length ∧ i = .int .i64 k ∧ zs.length = 2 * ts.length ∧ Blk wr w.heap.size 50 (u32s zs) ∧ Unpacked ts k zs ∧ Below w.heap.size w wr) (fun _ _ i _ => ts.length - (intOf i).toNat)
  case atStart => exact ⟨0, List.replicate (2 * ts.length) 0, by omega, rfl, by simp, Blk.new_ (by simp [u32s]), Unpacked.start _ _, br9.alloc nl9 _⟩
  case round =>
   obtain ⟨k, zs, hk, rfl, hzl, hblk, hpk, hbel⟩ := hrel
   by_cases hlt : k < ts.length
   ·have hx := (hbel.cell (p := ⟨b, off + k, none⟩) (show b < _ by omega)).trans (hcell2 k hlt)
    clear hcell2
    have hz1 : 2 * k + 1 < zs.length := by omega
    have Hzl := hi9 hzl
    clear hzl
    have hc0 := (hblk.cell (2 * k)).trans (u32s_at (by omega))
    have hc1 := (hblk.cell (2 * k + 1)).trans (u32s_at (by omega))
    have hf0 := hblk.frozen (2 * k)
    have hf1 := hblk.frozen (2 * k + 1)
    have hxd := hd2.at_ k hlt
    go_wp2
    go_roundw
    case rel =>
     refine ⟨k + 1, (zs.set (2 * k) (ts[k] % 4294967296)).set (2 * k + 1) (ts[k] / 4294967296), by omega, by go_num, by simpa using Hzl.out, ?_, hpk.step hlt hz1 hxd, (hbel.setCell (p := ⟨w.heap.size, 2 * k, none⟩) nl9 _).setCell (p := ⟨w.heap.size, 2 * k + 1, none⟩) nl9 _⟩
     have hb2 := (hblk.set_ (2 * k) (Value.int IntKind.u32 ((ts[k] % 4294967296 : Nat) : Int))).set_ (2 * k + 1) (Value.int IntKind.u32 ((ts[k] / 4294967296 : Nat) : Int))
     rw [u32s_set, u32s_set] at hb2
     exact hb2
    case measure => simp [intOf]; omega
   ·obtain rfl : k = ts.length := by omega
    have Hzl := hi9 hzl
    have hrd : Rd wr wr.heap.size (some ⟨w.heap.size, 0, none⟩) (u32s zs) := (Res.of_blk0 hblk nl9 (by rw [u32s_length]; omega)).rd
    have hzm : zs.length ≤ 281474976710656 := by omega
    clear hzl hcell2
    go_wp2_with (go_at_call 128; rw [← Hzl.out]; refine (trim_any _ _ zs wr _ hrd nl9 hzm).mono ?_; rintro e w' ⟨rfl, rfl⟩)
    go_ret
    refine ⟨trimL zs, _, _, rfl, ?_, ?_, hbel⟩
    ·have e : val 4294967296 zs = val 18446744073709551616 ws := by rw [hpk.2.1, List.take_length]; exact Hv2.out
     rw [← e]
     exact Num.of_trim hpk.1
    ·have h3 := (Res.of_blk0 hblk nl9 (by rw [u32s_length]; exact hzm)).take (trimL zs).length
     rw [← u32s_trim, u32s_length] at h3
     exact h3
end
section
open Go.RowKit
def cmpN (a b : Nat) : Int := if a < b then -1 else if b < a then 1 else 0
set_option maxHeartbeats 400000 in
theorem order_any (b : Bool) (w : World) : Calls Tryz.prog 130 #[.bool b] w fun e w' => e = .returned (.int .i64 (if b then -1 else 1)) ∧ w = w' := by
 cases b
 all_goals
  go_enter Tryz.func130, Tryz.ntmps130
  go_wp2
  go_ret
  exact ⟨rfl, rfl⟩
theorem val_cmp_top (b : Nat) (xs ys : List Nat) (hx : Dig b xs) (hl : xs.length = ys.length) (j : Nat) (hj : j < xs.length) (hsame : ∀ i (h : i < xs.length), j < i → xs[i] = ys[i]'(by omega)) (hlt : xs[j] < ys[j]'(by omega)) : val b xs < val b ys := by
 induction xs generalizing ys j with
 | nil => simp at hj
 | cons x xs ih =>
  cases ys with
  | nil => simp at hl
  | cons y ys =>
   cases j with
   | zero =>
    have e : xs = ys := by
     apply List.ext_getElem (by simpa using hl)
     intro i h1 h2
     have := hsame (i + 1) (by simpa using h1) (by omega)
     simpa using this
    subst e
    simp only [val]
    simp at hlt
    omega
   | succ j =>
    have h1 := ih ys hx.tail_ (by simpa using hl) j (by simpa using hj) (fun i h hji => by
     have := hsame (i + 1) (by simpa using h) (by omega)
     simpa using this) (by simpa using hlt)
    have h2 := hx.head_
    simp only [val]
    have : b * (val b xs + 1) ≤ b * val b ys := Nat.mul_le_mul_left _ h1
    rw [Nat.mul_add] at this
    omega
theorem val_lt_len {b : Nat} {xs ys : List Nat} {m n : Nat} (hb : 0 < b) (hx : Num b xs m) (hy : Num b ys n) (h : xs.length < ys.length) : m < n := by
 have h1 := hx.lt
 have h2 := hy.ge (by rintro rfl; simp at h)
 have : b ^ xs.length ≤ b ^ (ys.length - 1) := Nat.pow_le_pow_right hb (by omega)
 omega
set_option maxHeartbeats 400000 in
theorem cmp_any (A A2 : Option Addr) (c c2 : Nat) (xs ys : List Nat) (w : World) (B : Nat) (hr : Rd w B A (u32s xs)) (hr2 : Rd w B A2 (u32s ys)) (hd : Dig 4294967296 xs) (hd2 : Dig 4294967296 ys) (hc : xs.length ≤ c) (hc2 : ys.length ≤ c2) (hm : xs.length ≤ 281474976710656) (hm2 : ys.length ≤ 281474976710656) :
  Calls Tryz.prog 104 #[.slice A xs.length c, .slice A2 ys.length c2] w fun e w' => e = .returned (.int .i64 (cmpN (val 4294967296 xs) (val 4294967296 ys))) ∧ Dr w w' := by
 obtain ⟨m, hmv⟩ : ∃ m, m = val 4294967296 xs := ⟨_, rfl⟩
 obtain ⟨n, hnv⟩ : ∃ n, n = val 4294967296 ys := ⟨_, rfl⟩
 have hn1 : Num 4294967296 (trimL xs) m := by rw [hmv]; exact Num.of_trim hd
 have hn2 : Num 4294967296 (trimL ys) n := by rw [hnv]; exact Num.of_trim hd2
 have hl1 := trimL_length_le xs
 have hl2 := trimL_length_le ys
 rw [← hmv, ← hnv]
 have hrt : Rd w B A (u32s (trimL xs)) := by rw [u32s_trim]; exact hr.take _
 have hrt2 : Rd w B A2 (u32s (trimL ys)) := by rw [u32s_trim]; exact hr2.take _
 obtain ⟨ps, has⟩ : ∃ ps, ps = trimL xs := ⟨_, rfl⟩
 obtain ⟨qs, hbs⟩ : ∃ qs, qs = trimL ys := ⟨_, rfl⟩
 rw [← has] at hn1 hrt hl1
 rw [← hbs] at hn2 hrt2 hl2
 have Has := hi9 has
 have Hbs := hi9 hbs
 clear has hbs hmv hnv
 rcases Nat.lt_trichotomy ps.length qs.length with hlt | heq | hgt
 ·have hv : m < n := val_lt_len (by omega) hn1 hn2 hlt
  have e1 : cmpN m n = -1 := by simp [cmpN, hv]
  have He1 := hi9 e1
  have t1 : ((ps.length : Int) != (qs.length : Int)) = true := by rw [bne_iff_ne]; omega
  clear e1 hv
  go_enter Tryz.func104, Tryz.ntmps104
  go_wp2_with (first
   | (go_at_call 128; (with_reducible refine (trim_any A c xs _ B hr hc hm).mono ?_); rintro e w' ⟨rfl, rfl⟩; rw [← Has.out])
   | (go_at_call 128; (with_reducible refine (trim_any A2 c2 ys _ B hr2 hc2 hm2).mono ?_); rintro e w' ⟨rfl, rfl⟩; rw [← Hbs.out])
   | (go_at_call 130; (with_reducible refine (order_any _ _).mono ?_); rintro e w' ⟨rfl, rfl⟩))
  go_ret
  exact ⟨by rw [He1.out]; rfl, Dr.refl _⟩
 ·have t1 : ((ps.length : Int) != (qs.length : Int)) = false := by rw [bne_eq_false_iff_eq]; omega
  have Heq := hi9 heq
  clear heq
  go_enter Tryz.func104, Tryz.ntmps104
  go_wp2_with (first
   | (go_at_call 128; (with_reducible refine (trim_any A c xs _ B hr hc hm).mono ?_); rintro e w' ⟨rfl, rfl⟩; rw [← Has.out])
   | (go_at_call 128; (with_reducible refine (trim_any A2 c2 ys _ B hr2 hc2 hm2).mono ?_); rintro e w' ⟨rfl, rfl⟩; rw [← Hbs.out])
   | (go_at_call 130; (with_reducible refine (order_any _ _).mono ?_); rintro e w' ⟨rfl, rfl⟩))
  go_loopw [5] (fun i wr => ∃ k : Nat, k ≤ ps.length ∧ i = .int .i64 ((k : Int) - 1) ∧ (∀ j (h : j < ps.length) (h2 : j < qs.length), k ≤ j → ps[j] = qs[j]) ∧ Dr w wr) (fun i _ => (intOf i + 1).toNat)
  case atStart => exact ⟨ps.length, Nat.le_refl _, rfl, fun j h _ hj => by omega, Dr.refl _⟩
  case round =>
   obtain ⟨k, hk, rfl, hs, hdr⟩ := hrel
   rcases k with _ | k
   ·go_wp2
    go_ret
    have e : ps = qs := List.ext_getElem Heq.out (fun j h1 h2 => hs j h1 h2 (Nat.zero_le _))
    have e2 : m = n := by rw [← hn1.2.2, ← hn2.2.2, e]
    exact ⟨by rw [e2]; simp [cmpN], hdr⟩
   ·have hk2 : k < qs.length := by have := Heq.out; omega
    obtain ⟨b, off, rfl, hb, hcell⟩ := hrt (by intro e; have := u32s_length ps; rw [e] at this; simp at this; omega)
    obtain ⟨b2, off2, rfl, hb2, hcell2⟩ := hrt2 (by intro e; have := u32s_length qs; rw [e] at this; simp at this; omega)
    have hx := hcell k _ (u32s_at (by omega))
    have hy := hcell2 k _ (u32s_at hk2)
    rw [show ((k + 1 : Nat) : Int) - 1 = (k : Int) from by omega]
    have hx := ((hdr.below B).cell (p := ⟨b, off + k, none⟩) hb).trans hx
    have hy := ((hdr.below B).cell (p := ⟨b2, off2 + k, none⟩) hb2).trans hy
    clear hcell hcell2 hr hr2 hrt hrt2
    rcases Nat.lt_trichotomy ps[k] qs[k] with hlt | he | hgt
    ·have hv : m < n := by
      rw [← hn1.2.2, ← hn2.2.2]
      exact val_cmp_top _ ps qs hn1.1 Heq.out k (by omega) (fun i h hki => hs i h (by have := Heq.out; omega) hki) hlt
     have e1 : cmpN m n = -1 := by simp [cmpN, hv]
     have He1 := hi9 e1
     have t2 : ((ps[k] : Int) != (qs[k] : Int)) = true := by rw [bne_iff_ne]; omega
     have t3 : decide (ps[k] < qs[k]) = true := by simp; omega
     clear e1 hv hs
     go_wp2
     go_quiet (fail)
     go_wp2
     go_quiet ((go_at_call 130; first | exact quietL (order_any _ _) | exact quietAddL (order_any _ _)))
     go_wp2
     go_ret
     exact ⟨by rw [He1.out]; rfl, by first | exact hdr.step _ | exact (hdr.step _).step _⟩
    ·have t2 : ((ps[k] : Int) != (qs[k] : Int)) = false := by rw [bne_eq_false_iff_eq]; omega
     have Hs : Hid (∀ j (h : j < ps.length) (h2 : j < qs.length), k ≤ j → ps[j] = qs[j]) := fun j h h2 hkj => by
      by_cases e : k = j
      ·subst e; exact he
      ·exact hs j h h2 (by omega)
     clear hs he
     go_wp2
     go_quiet (fail)
     go_wp2
     go_roundw
     case rel => exact ⟨k, by omega, by go_num, Hs.out, hdr.step _⟩
     case measure => simp [intOf]
    ·have hv : n < m := by
      rw [← hn1.2.2, ← hn2.2.2]
      exact val_cmp_top _ qs ps hn2.1 Heq.out.symm k hk2 (fun i h hki => (hs i (by have := Heq.out; omega) h hki).symm) hgt
     have e1 : cmpN m n = 1 := by simp [cmpN, hv]; omega
     have He1 := hi9 e1
     have t2 : ((ps[k] : Int) != (qs[k] : Int)) = true := by rw [bne_iff_ne]; omega
     have t3 : decide (ps[k] < qs[k]) = false := by simp; omega
     clear e1 hv hs
     go_wp2
     go_quiet (fail)
     go_wp2
     go_quiet ((go_at_call 130; first | exact quietL (order_any _ _) | exact quietAddL (order_any _ _)))
     go_wp2
     go_ret
     exact ⟨by rw [He1.out]; rfl, by first | exact hdr.step _ | exact (hdr.step _).step _⟩
 ·have hv : n < m := val_lt_len (by omega) hn2 hn1 hgt
  have e1 : cmpN m n = 1 := by simp [cmpN, hv]; omega
  have He1 := hi9 e1
  have t1 : ((ps.length : Int) != (qs.length : Int)) = true := by rw [bne_iff_ne]; omega
  clear e1 hv
  go_enter Tryz.func104, Tryz.ntmps104
  go_wp2_with (first
   | (go_at_call 128; (with_reducible refine (trim_any A c xs _ B hr hc hm).mono ?_); rintro e w' ⟨rfl, rfl⟩; rw [← Has.out])
   | (go_at_call 128; (with_reducible refine (trim_any A2 c2 ys _ B hr2 hc2 hm2).mono ?_); rintro e w' ⟨rfl, rfl⟩; rw [← Hbs.out])
   | (go_at_call 130; (with_reducible refine (order_any _ _).mono ?_); rintro e w' ⟨rfl, rfl⟩))
  go_ret
  exact ⟨by rw [He1.out]; rfl, Dr.refl _⟩
end
section
open Go.RowKit
theorem lz64_any (x : Nat) (w : World) (h : x < 18446744073709551616) : Calls Tryz.prog 173 #[.int .u64 (x : Int)] w fun e w' => e = .returned (.int .i64 (64 - (Lib.bitLen x : Int))) ∧ w = w' :=
 (Go.Proofs.Tryz.bits_LeadingZeros64 (x : Int) w (by omega) (by omega)).mono fun _ _ ⟨he, hw⟩ => ⟨by rw [he]; simp, hw.symm⟩
theorem len32_any (x : Nat) (w : World) (h : x < 4294967296) : Calls Tryz.prog 129 #[.int .u32 (x : Int)] w fun e w' => e = .returned (.int .i64 (Lib.bitLen x : Int)) ∧ w = w' :=
 (Go.Proofs.Tryz.bits_Len32 (x : Int) w (by omega) (by omega)).mono fun _ _ ⟨he, hw⟩ => ⟨by rw [he]; simp, hw.symm⟩
theorem mul64_any (x y : Nat) (w : World) (hx : x < 18446744073709551616) (hy : y < 18446744073709551616) : Calls Tryz.prog 131 #[.int .u64 (x : Int), .int .u64 (y : Int)] w fun e w' => e = .returned (.tuple #[.int .u64 ((x * y / 18446744073709551616 : Nat) : Int), .int .u64 ((x * y % 18446744073709551616 : Nat) : Int)]) ∧ w = w' :=
 (Go.Proofs.Tryz.bits_Mul64 x y hx hy w).mono fun _ _ ⟨he, hw⟩ => ⟨he, hw.symm⟩
theorem bitLen_bounds (x : Nat) (h : x < 18446744073709551616) (h0 : x ≠ 0) : 1 ≤ Lib.bitLen x ∧ 2 ^ (Lib.bitLen x - 1) ≤ x ∧ x < 2 ^ Lib.bitLen x :=
 Lib.bitLenAux_bounds 64 x h h0
theorem bitLen_le64 (x : Nat) (h : x < 18446744073709551616) : Lib.bitLen x ≤ 64 := Lib.bitLen_le x 64 nl9 h
end
section
open Go.RowKit
theorem add64_run (x y c : Nat) (hc : c ≤ 1) (w : World) :
  (callFunc 208 #[.int .u64 (x : Int), .int .u64 (y : Int), .int .u64 (c : Int)]).run Tryz.prog w =
   .ok (.value (.tuple #[.int .u64 (((x + y + c) % 18446744073709551616 : Nat) : Int), .int .u64 (((x + y + c) / 18446744073709551616 : Nat) : Int)])) w := by
 rw [run_callFunc_extern Tryz.func208 (by kernel_rfl) (by kernel_rfl) (by kernel_rfl) (e := add64Entry) (by kernel_rfl), run_add64 x y c (by omega) (by omega) (by omega) (by omega)]
 simp only [Result.andThen]
 congr 5 <;> omega
theorem sub64_run (x y b : Nat) (hb : b ≤ 1) (w : World) :
  (callFunc 209 #[.int .u64 (x : Int), .int .u64 (y : Int), .int .u64 (b : Int)]).run Tryz.prog w =
   .ok (.value (.tuple #[.int .u64 (((x + 18446744073709551616 - y - b) % 18446744073709551616 : Nat) : Int), .int .u64 ((if x < y + b then 1 else 0 : Nat) : Int)])) w := by
 rw [run_callFunc_extern Tryz.func209 (by kernel_rfl) (by kernel_rfl) (by kernel_rfl) (e := sub64Entry) (by kernel_rfl), run_sub64 x y b hb]
 rfl
theorem blk_two' {w : World} {o : Obj} {t : TypeId} {cs : Array Value} {vs : List Value} (e : cs = vs.toArray) : Blk ((w.alloc o).alloc (.cells cs t (0, 0))) (w.heap.size + 1) t vs := by
 have := Blk.new_ (w := w.alloc o) (t := t) e
 simpa using this
theorem adder_any (w : World) : Calls Tryz.prog 195 #[] w fun e w' => e = .returned (.func (.func 214) #[] #[.pointer (some ⟨w.heap.size, 0, none⟩)]) ∧
  Blk w' w.heap.size 116 [.int .u64 ((0 : Nat) : Int)] ∧ w'.heap.size = w.heap.size + 1 ∧ Below w.heap.size w w' := by
 have hmf : ∀ (fn : Fn) (first cap : Array Value) (w : World), (Instr.makeFunc fn first cap).run Tryz.prog w = .ok (.func fn first cap) w := fun _ _ _ _ => rfl
 go_enter Tryz.func195, Tryz.ntmps195
 go_wp2
 go_ret
 exact ⟨rfl, Blk.new_ rfl, by simp, br9.alloc nl9 _⟩
theorem subtracter_any (w : World) : Calls Tryz.prog 194 #[] w fun e w' => e = .returned (.func (.func 213) #[] #[.pointer (some ⟨w.heap.size, 0, none⟩)]) ∧
  Blk w' w.heap.size 116 [.int .u64 ((0 : Nat) : Int)] ∧ w'.heap.size = w.heap.size + 1 ∧ Below w.heap.size w w' := by
 have hmf : ∀ (fn : Fn) (first cap : Array Value) (w : World), (Instr.makeFunc fn first cap).run Tryz.prog w = .ok (.func fn first cap) w := fun _ _ _ _ => rfl
 go_enter Tryz.func194, Tryz.ntmps194
 go_wp2
 go_ret
 exact ⟨rfl, Blk.new_ rfl, by simp, br9.alloc nl9 _⟩
theorem scaler_any (n : Nat) (w : World) : Calls Tryz.prog 158 #[.int .u32 (n : Int)] w fun e w' => e = .returned (.func (.func 182) #[] #[.pointer (some ⟨w.heap.size + 1, 0, none⟩), .pointer (some ⟨w.heap.size, 0, none⟩)]) ∧
  Blk w' w.heap.size 50 [.int .u32 (n : Int)] ∧ Blk w' (w.heap.size + 1) 116 [.int .u64 ((0 : Nat) : Int)] ∧ w'.heap.size = w.heap.size + 2 ∧ Below w.heap.size w w' := by
 have hmf : ∀ (fn : Fn) (first cap : Array Value) (w : World), (Instr.makeFunc fn first cap).run Tryz.prog w = .ok (.func fn first cap) w := fun _ _ _ _ => rfl
 go_enter Tryz.func158, Tryz.ntmps158
 go_wp2
 go_ret
 exact ⟨rfl, (Blk.new_ rfl).heapAlloc _, blk_two' rfl, by simp, (br9.alloc nl9 _).alloc (by simp) _⟩
theorem multiplier_any (n : Nat) (w : World) : Calls Tryz.prog 207 #[.int .u64 (n : Int)] w fun e w' => e = .returned (.func (.func 217) #[] #[.pointer (some ⟨w.heap.size, 0, none⟩), .pointer (some ⟨w.heap.size + 1, 0, none⟩)]) ∧
  Blk w' w.heap.size 116 [.int .u64 (n : Int)] ∧ Blk w' (w.heap.size + 1) 116 [.int .u64 ((0 : Nat) : Int)] ∧ w'.heap.size = w.heap.size + 2 ∧ Below w.heap.size w w' := by
 have hmf : ∀ (fn : Fn) (first cap : Array Value) (w : World), (Instr.makeFunc fn first cap).run Tryz.prog w = .ok (.func fn first cap) w := fun _ _ _ _ => rfl
 go_enter Tryz.func207, Tryz.ntmps207
 go_wp2
 go_ret
 exact ⟨rfl, (Blk.new_ rfl).heapAlloc _, blk_two' rfl, by simp, (br9.alloc nl9 _).alloc (by simp) _⟩
set_option maxHeartbeats 400000 in
theorem adder1_any (x y c g : Nat) (w : World) (hx : x < 4294967296) (hy : y < 4294967296) (hc : c ≤ 1) (hg : Blk w g 116 [.int .u64 (c : Int)]) :
  Calls Tryz.prog 214 #[.int .u32 (x : Int), .int .u32 (y : Int), .pointer (some ⟨g, 0, none⟩)] w fun e w' => e = .returned (.int .u32 (((c + x + y) % 4294967296 : Nat) : Int)) ∧ Blk w' g 116 [.int .u64 (((c + x + y) / 4294967296 : Nat) : Int)] ∧ Ch g w w' := by
 obtain ⟨s, hs⟩ : ∃ s, s = c + x + y := ⟨_, rfl⟩
 rw [← hs]
 have e1 : (c : Int) + ((x : Int) + (y : Int)) = (s : Int) := by omega
 have hb : s < 8589934592 := by omega
 have c1 := hg.cell0
 have f1 := hg.frozen 0
 clear hs
 go_enter Tryz.func214, Tryz.ntmps214
 go_wp2
 go_ret
 refine ⟨by simp, ?_, ((Ch.refl g w).setCell 0 _).setCell 0 _⟩
 have hb2 := (hg.set_ 0 (.int .u64 (s : Int))).set_ 0 (.int .u64 ((s / 4294967296 : Nat) : Int))
 simpa using hb2
set_option maxHeartbeats 400000 in
theorem subtracter1_any (x y c g : Nat) (w : World) (hx : x < 4294967296) (hy : y < 4294967296) (hc : c ≤ 1) (hg : Blk w g 116 [.int .u64 (c : Int)]) :
  Calls Tryz.prog 213 #[.int .u32 (x : Int), .int .u32 (y : Int), .pointer (some ⟨g, 0, none⟩)] w fun e w' => e = .returned (.int .u32 (((4294967296 + x - y - c) % 4294967296 : Nat) : Int)) ∧ Blk w' g 116 [.int .u64 ((1 - (4294967296 + x - y - c) / 4294967296 : Nat) : Int)] ∧ Ch g w w' := by
 obtain ⟨s, hs⟩ : ∃ s, s = (18446744073709551616 + x - y - c) % 18446744073709551616 := ⟨_, rfl⟩
 have e1 : IntKind.u64.wrap (IntKind.u64.wrap ((x : Int) - (y : Int)) - (c : Int)) = (s : Int) := by
  rw [IntKind.wrap_u64, IntKind.wrap_u64]; omega
 have hb : s < 18446744073709551616 := by omega
 have c1 := hg.cell0
 have f1 := hg.frozen 0
 have e2 : (4294967296 + x - y - c) % 4294967296 = s % 4294967296 := by omega
 have e3 : 1 - (4294967296 + x - y - c) / 4294967296 = s / 9223372036854775808 := by omega
 rw [e2, e3]
 have He1 := hi9 e1
 clear hs e1 e2 e3
 go_enter Tryz.func213, Tryz.ntmps213
 go_wp2
 rw [He1.out]
 go_wp2
 go_ret
 refine ⟨by simp, ?_, (Ch.refl g w).setCell 0 _⟩
 have hb2 := hg.set_ 0 (.int .u64 ((s / 9223372036854775808 : Nat) : Int))
 simpa using hb2
set_option maxHeartbeats 400000 in
theorem scaler1_any (x n c g h : Nat) (w : World) (hx : x < 4294967296) (hn : n < 4294967296) (hc : c < 4294967296) (hg : Blk w g 116 [.int .u64 (c : Int)]) (hh : Blk w h 50 [.int .u32 (n : Int)]) (hne : h ≠ g) :
  Calls Tryz.prog 182 #[.int .u32 (x : Int), .pointer (some ⟨g, 0, none⟩), .pointer (some ⟨h, 0, none⟩)] w fun e w' => e = .returned (.int .u32 (((c + x * n) % 4294967296 : Nat) : Int)) ∧ Blk w' g 116 [.int .u64 (((c + x * n) / 4294967296 : Nat) : Int)] ∧ Ch g w w' := by
 obtain ⟨p, hp⟩ : ∃ p, p = x * n := ⟨_, rfl⟩
 have hpb : p ≤ 4294967295 * 4294967295 := by rw [hp]; exact Nat.mul_le_mul (by omega) (by omega)
 obtain ⟨s, hs⟩ : ∃ s, s = c + p := ⟨_, rfl⟩
 rw [← hp, ← hs]
 have e0 : (x : Int) * (n : Int) = (p : Int) := by rw [hp]; simp
 have e1 : (c : Int) + (p : Int) = (s : Int) := by omega
 have hb : s < 18446744073709551616 := by omega
 have c1 := hg.cell0
 have c2 := hh.cell0
 have f1 := hg.frozen 0
 have e2 : ¬ (h = g) := hne
 clear hs hp
 go_enter Tryz.func182, Tryz.ntmps182
 go_wp2
 go_ret
 refine ⟨by simp, ?_, ((Ch.refl g w).setCell 0 _).setCell 0 _⟩
 have hb2 := (hg.set_ 0 (.int .u64 (s : Int))).set_ 0 (.int .u64 ((s / 4294967296 : Nat) : Int))
 simpa using hb2
theorem add64_run0 (x y : Nat) (w : World) :
  (callFunc 208 #[.int .u64 (x : Int), .int .u64 (y : Int), .int .u64 0]).run Tryz.prog w =
   .ok (.value (.tuple #[.int .u64 (((x + y) % 18446744073709551616 : Nat) : Int), .int .u64 (((x + y) / 18446744073709551616 : Nat) : Int)])) w := add64_run x y 0 (by omega) w
theorem sub64_run0 (x y : Nat) (w : World) :
  (callFunc 209 #[.int .u64 (x : Int), .int .u64 (y : Int), .int .u64 0]).run Tryz.prog w =
   .ok (.value (.tuple #[.int .u64 (((x + 18446744073709551616 - y) % 18446744073709551616 : Nat) : Int), .int .u64 ((if x < y then 1 else 0 : Nat) : Int)])) w := sub64_run x y 0 (by omega) w
set_option maxHeartbeats 400000 in
theorem multiplier1_any (x y n c g h : Nat) (w : World) (hx : x < 18446744073709551616) (hy : y < 18446744073709551616) (hn : n < 18446744073709551616) (hc : c < 18446744073709551616) (hg : Blk w g 116 [.int .u64 (c : Int)]) (hh : Blk w h 116 [.int .u64 (n : Int)]) (hne : h ≠ g) :
  Calls Tryz.prog 217 #[.int .u64 (x : Int), .int .u64 (y : Int), .pointer (some ⟨h, 0, none⟩), .pointer (some ⟨g, 0, none⟩)] w fun e w' => e = .returned (.int .u64 (((c + x * n + y) % 18446744073709551616 : Nat) : Int)) ∧ Blk w' g 116 [.int .u64 (((c + x * n + y) / 18446744073709551616 : Nat) : Int)] ∧ Ch g w w' := by
 have hpb : x * n ≤ 18446744073709551615 * 18446744073709551615 := Nat.mul_le_mul (by omega) (by omega)
 have hmul := fun W => mul64_any x n W hx hn
 obtain ⟨hi, hhi⟩ : ∃ hi, hi = x * n / 18446744073709551616 := ⟨_, rfl⟩
 obtain ⟨lo, hlo⟩ : ∃ lo, lo = x * n % 18446744073709551616 := ⟨_, rfl⟩
 have e0 : x * n = hi * 18446744073709551616 + lo := by rw [hhi, hlo]; omega
 rw [e0] at hpb ⊢
 rw [← hhi, ← hlo] at hmul
 have hlb : lo < 18446744073709551616 := by rw [hlo]; omega
 clear hhi hlo e0
 have a1 := fun W => add64_run0 lo y W
 obtain ⟨l1, hl1⟩ : ∃ l1, l1 = (lo + y) % 18446744073709551616 := ⟨_, rfl⟩
 obtain ⟨o1, ho1⟩ : ∃ o1, o1 = (lo + y) / 18446744073709551616 := ⟨_, rfl⟩
 rw [← hl1, ← ho1] at a1
 have a2 := fun W => add64_run0 l1 c W
 obtain ⟨l2, hl2⟩ : ∃ l2, l2 = (l1 + c) % 18446744073709551616 := ⟨_, rfl⟩
 obtain ⟨o2, ho2⟩ : ∃ o2, o2 = (l1 + c) / 18446744073709551616 := ⟨_, rfl⟩
 rw [← hl2, ← ho2] at a2
 have r1 : (c + (hi * 18446744073709551616 + lo) + y) % 18446744073709551616 = l2 := by omega
 have r2 : (c + (hi * 18446744073709551616 + lo) + y) / 18446744073709551616 = hi + o1 + o2 := by omega
 rw [r1, r2]
 have b1 : hi + o1 < 18446744073709551616 := by omega
 have b2 : hi + o1 + o2 < 18446744073709551616 := by omega
 have c1 := hg.cell0
 have c2 := hh.cell0
 have f1 := hg.frozen 0
 have e2 : ¬ (h = g) := hne
 clear hl1 ho1 hl2 ho2 r1 r2 hpb
 go_enter Tryz.func217, Tryz.ntmps217
 go_wp2_with (first
  | (go_at_call 131; (with_reducible refine (hmul _).mono ?_); rintro e w' ⟨rfl, rfl⟩)
  | (simp only [])
  | (simp only [a2]))
 go_ret
 refine ⟨by simp, ?_, (Ch.refl g w).setCell 0 _⟩
 have hb2 := hg.set_ 0 (.int .u64 ((hi + o1 + o2 : Nat) : Int))
 simpa using hb2
end
end Go.Proofs.YtbcphifjcaobfaaGreatDoor
