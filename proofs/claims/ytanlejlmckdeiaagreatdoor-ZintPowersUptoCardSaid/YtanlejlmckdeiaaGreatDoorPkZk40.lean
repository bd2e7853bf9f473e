/- The contracts of TrailingZeros32 and of nat.Trail. Conditions: words; the table reads as it is laid. The trailing zeros of a number by its value: 2 to them divides it. Conditions: digits below the base. The contracts of lifter, dropper and their closures. The contract of shiftUp. -/
import Derived.Test.YtanlejlmckdeiaaGreatDoorPkZk21
import Derived.Test.YtanlejlmckdeiaaGreatDoorPkZk5
import Derived.Shelf.Spec.TrailingZeros
import Derived.Test.YtanlejlmckdeiaaGreatDoorPkZk9
import Derived.Test.YtanlejlmckdeiaaGreatDoorPkZk6
namespace Go.Proofs.YtanlejlmckdeiaaGreatDoor
section
open Go.RowKit

/-- The table of the library. -/
def Tab32 (w : World) : Prop := TabAt 1 Lib.deBruijn32tab w
theorem Tab32.below {w w' : World} {B : Nat} (h : Tab32 w) (hb : Below B w w') (hB : 1 < B) : Tab32 w' := fun j hj => (hb.cell (p := ⟨_, j, none⟩) hB).trans (h j hj)
theorem Tab32.dr {w w' : World} (h : Tab32 w) (hd : Dr w w') : Tab32 w' := by
  obtain ⟨n, rfl⟩ := hd
  exact h

set_option maxHeartbeats 800000 in
theorem tz32_any (x : Nat) (hx : x < 4294967296) (h0 : x ≠ 0) (w : World) (hT : Tab32 w) :
    Calls Tryz.prog 120 #[.int .u32 (x : Int)] w fun e w' => e = .returned (.int .i64 (Lib.ctz 32 x : Nat)) ∧ w = w' := by
  obtain ⟨hlow, hk⟩ := Lib.lowest_bit 32 x h0 hx
  obtain ⟨hi, htab⟩ := Lib.deBruijn32_at _ hk
  have hcell := hT _ hi
  rw [htab] at hcell
  have key := tz32_key x _ hx h0 hlow
  obtain ⟨k, hke⟩ : ∃ k, k = Lib.ctz 32 x := ⟨_, rfl⟩
  obtain ⟨idx, hidx⟩ : ∃ idx, idx = 2 ^ k * 125613361 % 4294967296 / 134217728 := ⟨_, rfl⟩
  rw [← hke, ← hidx] at hi hcell key
  rw [← hke] at hk ⊢
  have hx0 : ((x : Int) == 0) = false := by simp; omega
  clear hlow htab hT hke hidx h0
  go_enter Tryz.func120, Tryz.ntmps120
  go_wp2_with (simp only [key])
  go_ret
  exact ⟨rfl, rfl⟩

set_option maxHeartbeats 800000 in
theorem trail_any (A : Option Addr) (c : Nat) (xs : List Nat) (w : World) (B : Nat) (hr : Rd w B A (u32s xs)) (hd : Dig 4294967296 xs) (hm : xs.length ≤ 281474976710656) (hT : Tab32 w) :
    Calls Tryz.prog 83 #[.slice A xs.length c] w fun e w' => ∃ t : Nat, e = .returned (.int .i64 (t : Int)) ∧ TrailIs xs t ∧ w = w' := by
  go_enter Tryz.func83, Tryz.ntmps83
  go_wp2
  go_loopw [3, 4, 7] (fun _ _ i wr => ∃ k : Nat, k ≤ xs.length ∧ i = .int .i64 k ∧ wr = w ∧ ∀ j, j < k → at0 xs j = 0) (fun _ _ i _ => xs.length - (intOf i).toNat)
  case atStart => exact ⟨0, by omega, rfl, rfl, fun j hj => by omega⟩
  case round =>
    obtain ⟨k, hk, rfl, rfl, hz⟩ := hrel
    by_cases hlt : k < xs.length
    · obtain ⟨b, off, rfl, hb, hcell⟩ := hr (by intro e; have := u32s_length xs; rw [e] at this; simp at this; omega)
      have hx := hcell k _ (u32s_at hlt)
      have hxd := hd.at_ k hlt
      have Hz := Lib.hid hz
      by_cases h0 : xs[k] = 0
      · rw [h0] at hx
        have H0 := Lib.hid h0
        clear h0 hxd hcell hr hz
        go_wp2
        go_roundw
        case rel => exact ⟨k + 1, by omega, by go_num, by trivial, fun j hj => by
          rcases Nat.lt_or_ge j k with h | h
          · exact Hz.out j h
          · obtain rfl : j = k := by omega
            rw [at0_in hlt]; exact H0.out⟩
        case measure => simp [intOf]; omega
      · have Htr := Lib.hid (trail_at hlt hz (low_of h0 hxd))
        have Htz := Lib.hid (tz32_any xs[k] hxd h0 wr hT)
        have hctl := (low_of h0 hxd).lt
        obtain ⟨t, ht⟩ : ∃ t, t = Lib.ctz 32 xs[k] := ⟨_, rfl⟩
        rw [← ht] at Htr Htz hctl
        obtain ⟨x, hxe⟩ : ∃ x, x = xs[k] := ⟨_, rfl⟩
        rw [← hxe] at hx Htz h0 hxd
        have t1 : ((x : Int) == 0) = false := by simp; omega
        clear hcell hr hz ht hxe h0
        go_wp2_with (go_at_call 120; (with_reducible refine Htz.out.mono ?_); rintro e w' ⟨rfl, rfl⟩)
        go_ret
        exact ⟨32 * k + t, by simp, Htr.out, rfl⟩
    · obtain rfl : k = xs.length := by omega
      have Hz := Lib.hid hz
      clear hz
      go_wp2
      go_ret
      exact ⟨0, rfl, trail_none Hz.out, rfl⟩

theorem trail_exists (xs : List Nat) : ∃ t, TrailIs xs t := by
  have h : ∀ m, (∀ j, j < m → bitAt xs j ≠ 1) ∨ ∃ t, t < m ∧ bitAt xs t = 1 ∧ ∀ j, j < t → bitAt xs j ≠ 1 := by
    intro m
    induction m with
    | zero => exact Or.inl fun j hj => by omega
    | succ m ih =>
      rcases ih with ih | ⟨t, h1, h2, h3⟩
      · by_cases hb : bitAt xs m = 1
        · exact Or.inr ⟨m, by omega, hb, ih⟩
        · refine Or.inl fun j hj => ?_
          rcases Nat.lt_or_ge j m with h | h
          · exact ih j h
          · obtain rfl : j = m := by omega
            exact hb
      · exact Or.inr ⟨t, by omega, h2, h3⟩
  rcases h (32 * xs.length) with h | ⟨t, h1, h2, h3⟩
  · exact ⟨0, Or.inr ⟨rfl, h⟩⟩
  · exact ⟨t, Or.inl ⟨h1, h2, h3⟩⟩
theorem TrailIs.unique {xs : List Nat} {s t : Nat} (h : TrailIs xs s) (k : TrailIs xs t) : s = t := by
  rcases h with ⟨a, b, c⟩ | ⟨rfl, c⟩ <;> rcases k with ⟨a', b', c'⟩ | ⟨rfl, c'⟩
  · rcases Nat.lt_trichotomy s t with h | h | h
    · exact absurd b (c' s h)
    · exact h
    · exact absurd b' (c t h)
  · exact absurd b (c' s a)
  · exact absurd b' (c t a')
  · rfl
theorem trail_fix (A : Option Addr) (c : Nat) (xs : List Nat) (t : Nat) (ht : TrailIs xs t) (w : World) (B : Nat) (hr : Rd w B A (u32s xs)) (hd : Dig 4294967296 xs) (hm : xs.length ≤ 281474976710656) (hT : Tab32 w) :
    Calls Tryz.prog 83 #[.slice A xs.length c] w fun e w' => e = .returned (.int .i64 (t : Int)) ∧ w = w' :=
  (trail_any A c xs w B hr hd hm hT).mono fun e w' ⟨s, he, hs, hw⟩ => ⟨by rw [he, hs.unique ht], hw⟩
end
section
open Go.RowKit

theorem drop_at {b : Nat} {qs : List Nat} {k : Nat} (h : k < qs.length) : val b (qs.drop k) = qs[k] + b * val b (qs.drop (k + 1)) := by
  rw [List.drop_eq_getElem_cons h]
  rfl
theorem bitAt_val {xs : List Nat} (hd : Dig 4294967296 xs) (i : Nat) : bitAt xs i = val 4294967296 xs / 2 ^ i % 2 := by
  have h1 : (2 : Nat) ^ i = 4294967296 ^ (i / 32) * 2 ^ (i % 32) := by
    rw [show (4294967296 : Nat) = 2 ^ 32 from rfl, ← Nat.pow_mul, ← Nat.pow_add]
    congr 1
    omega
  rw [h1, ← Nat.div_div_eq_div_mul, ← val_drop (by omega) xs _ hd]
  unfold bitAt
  by_cases hk : i / 32 < xs.length
  · rw [drop_at hk, at0_in hk]
    have hp : (4294967296 : Nat) = 2 ^ (i % 32) * (2 * 2 ^ (31 - i % 32)) := by
      rw [← Nat.mul_assoc, ← Nat.pow_succ, ← Nat.pow_add, show i % 32 + 1 + (31 - i % 32) = 32 from by omega]
    obtain ⟨V, hV⟩ : ∃ V, V = val 4294967296 (xs.drop (i / 32 + 1)) := ⟨_, rfl⟩
    rw [← hV]
    have hp2 : xs[i / 32] + 4294967296 * V = xs[i / 32] + 2 ^ (i % 32) * (2 * (2 ^ (31 - i % 32) * V)) := by
      conv => lhs; rw [hp]
      simp only [Nat.mul_assoc]
    rw [hp2, Nat.add_mul_div_left _ _ (Nat.two_pow_pos _), Nat.add_mul_mod_self_left]
  · rw [at0_out (by omega), List.drop_eq_nil_of_le (by omega)]
    simp [val]
theorem dvd_of_bits {a t : Nat} (h : ∀ j, j < t → a / 2 ^ j % 2 = 0) : 2 ^ t ∣ a := by
  induction t with
  | zero => exact ⟨a, by simp⟩
  | succ t ih =>
    obtain ⟨m, hm⟩ := ih fun j hj => h j (by omega)
    have h1 := h t (by omega)
    rw [hm, Nat.mul_div_cancel_left _ (Nat.two_pow_pos t)] at h1
    refine ⟨m / 2, ?_⟩
    rw [Nat.pow_succ, Nat.mul_assoc, hm]
    congr 1
    omega
theorem TrailIs.dvd {xs : List Nat} {t : Nat} (hd : Dig 4294967296 xs) (h : TrailIs xs t) : 2 ^ t ∣ val 4294967296 xs := by
  rcases h with ⟨_, _, h⟩ | ⟨rfl, _⟩
  · refine dvd_of_bits fun j hj => ?_
    have := h j hj
    rw [bitAt_val hd] at this
    omega
  · exact ⟨val 4294967296 xs, by simp⟩
end
section
open Go.RowKit

theorem lifter_any (n : Nat) (w : World) : Calls Tryz.prog 123 #[.int .u64 (n : Int)] w fun e w' => e = .returned (.func (.func 150) #[] #[.pointer (some ⟨w.heap.size + 1, 0, none⟩), .pointer (some ⟨w.heap.size, 0, none⟩)]) ∧
    Blk w' w.heap.size 69 [.int .u64 (n : Int)] ∧ Blk w' (w.heap.size + 1) 55 [.int .u64 ((0 : Nat) : Int)] ∧ w'.heap.size = w.heap.size + 2 ∧ Below w.heap.size w w' := by
  have hmf : ∀ (fn : Fn) (first cap : Array Value) (w : World), (Instr.makeFunc fn first cap).run Tryz.prog w = .ok (.func fn first cap) w := fun _ _ _ _ => rfl
  go_enter Tryz.func123, Tryz.ntmps123
  go_wp2
  go_ret
  exact ⟨rfl, (Blk.new_ rfl).heapAlloc _, blk_two rfl, by simp, ((Below.refl _ _).alloc (Nat.le_refl _) _).alloc (by simp) _⟩

theorem dropper_any (n : Nat) (w : World) : Calls Tryz.prog 121 #[.int .u64 (n : Int)] w fun e w' => e = .returned (.func (.func 149) #[] #[.pointer (some ⟨w.heap.size + 1, 0, none⟩), .pointer (some ⟨w.heap.size, 0, none⟩)]) ∧
    Blk w' w.heap.size 69 [.int .u64 (n : Int)] ∧ Blk w' (w.heap.size + 1) 55 [.int .u64 ((0 : Nat) : Int)] ∧ w'.heap.size = w.heap.size + 2 ∧ Below w.heap.size w w' := by
  have hmf : ∀ (fn : Fn) (first cap : Array Value) (w : World), (Instr.makeFunc fn first cap).run Tryz.prog w = .ok (.func fn first cap) w := fun _ _ _ _ => rfl
  go_enter Tryz.func121, Tryz.ntmps121
  go_wp2
  go_ret
  exact ⟨rfl, (Blk.new_ rfl).heapAlloc _, blk_two rfl, by simp, ((Below.refl _ _).alloc (Nat.le_refl _) _).alloc (by simp) _⟩

set_option maxHeartbeats 400000 in
theorem lifter1_any (x c n g h : Nat) (w : World) (hn : n < 32) (hx : x < 4294967296) (hc : c < 2 ^ n) (hg : Blk w g 55 [.int .u64 (c : Int)]) (hh : Blk w h 69 [.int .u64 (n : Int)]) (hne : h ≠ g) :
    Calls Tryz.prog 150 #[.int .u32 (x : Int), .pointer (some ⟨g, 0, none⟩), .pointer (some ⟨h, 0, none⟩)] w fun e w' => e = .returned (.int .u32 (((c + 2 ^ n * x) % 4294967296 : Nat) : Int)) ∧ Blk w' g 55 [.int .u64 (((c + 2 ^ n * x) / 4294967296 : Nat) : Int)] ∧ Ch g w w' := by
  obtain ⟨s, hs⟩ : ∃ s, s = c + 2 ^ n * x := ⟨_, rfl⟩
  obtain ⟨e1, hb⟩ := shift_or c x n hn hc hx
  rw [← hs] at e1 hb ⊢
  have c1 := hg.cell0
  have c2 := hh.cell0
  have f1 := hg.frozen 0
  have e2 : ¬ (h = g) := hne
  have Hs := Lib.hid hs
  clear hs
  go_enter Tryz.func150, Tryz.ntmps150
  go_wp2
  go_ret
  refine ⟨by simp, ?_, ((Ch.refl g w).setCell 0 _).setCell 0 _⟩
  have hb2 := (hg.set_ 0 (.int .u64 (s : Int))).set_ 0 (.int .u64 ((s / 4294967296 : Nat) : Int))
  simpa using hb2

set_option maxHeartbeats 400000 in
set_option maxRecDepth 100000 in
theorem dropper1_any (x c n g h : Nat) (w : World) (hn : n < 32) (hx : x < 4294967296) (_ : c < 18446744073709551616) (hg : Blk w g 55 [.int .u64 (c : Int)]) (hh : Blk w h 69 [.int .u64 (n : Int)]) (hne : h ≠ g) :
    Calls Tryz.prog 149 #[.int .u32 (x : Int), .pointer (some ⟨g, 0, none⟩), .pointer (some ⟨h, 0, none⟩)] w fun e w' => e = .returned (.int .u32 (((c % 4294967296 * 4294967296 + x) / 2 ^ n % 4294967296 : Nat) : Int)) ∧ Blk w' g 55 [.int .u64 ((c % 4294967296 * 4294967296 + x : Nat) : Int)] ∧ Ch g w w' := by
  obtain ⟨s, hs⟩ : ∃ s, s = c % 4294967296 * 4294967296 + x := ⟨_, rfl⟩
  have e1 : bits BinOp.or IntKind.u64 (IntKind.u64.wrap ((c : Int) * 4294967296)) (x : Int) = (s : Int) := by
    have e : IntKind.u64.wrap ((c : Int) * 4294967296) = ((c % 4294967296 * 4294967296 : Nat) : Int) := by
      rw [IntKind.wrap_u64]; omega
    rw [e, u64_or_nat _ x (by omega) (by omega)]
    have := or_shift x (c % 4294967296) 32 (by omega)
    rw [show (2 : Nat) ^ 32 = 4294967296 from rfl] at this
    rw [this, hs]; congr 1; omega
  have hb : s < 18446744073709551616 := by omega
  rw [← hs]
  have c1 := hg.cell0
  have c2 := hh.cell0
  have f1 := hg.frozen 0
  have e2 : ¬ (h = g) := hne
  have Hs := Lib.hid hs
  clear hs
  go_enter Tryz.func149, Tryz.ntmps149
  go_wp2
  go_ret
  refine ⟨by simp, ?_, (Ch.refl g w).setCell 0 _⟩
  have hb2 := hg.set_ 0 (.int .u64 (s : Int))
  simpa using hb2
end
section
open Go.RowKit

/-- What shiftUp's row and carry are behind k limbs. -/
def Shifted (xs : List Nat) (d s k : Nat) (zs : List Nat) (c : Nat) : Prop :=
  Dig 4294967296 zs ∧ c < 2 ^ s ∧ val 4294967296 zs + 4294967296 ^ (d + k) * c = 4294967296 ^ d * (val 4294967296 (xs.take k) * 2 ^ s) ∧ ∀ j (h : j < zs.length), d + k ≤ j → zs[j] = 0
theorem Shifted.start (xs : List Nat) (d s n : Nat) : Shifted xs d s 0 (List.replicate n 0) 0 :=
  ⟨Dig.zeros_ (by omega) _, Nat.two_pow_pos _, by simp [val_zeros, val], fun j h _ => by simp⟩
theorem Shifted.step {xs zs : List Nat} {d s k c : Nat} (h : Shifted xs d s k zs c) (hk : k < xs.length) (hz : d + k < zs.length) (hx : xs[k] < 4294967296) :
    Shifted xs d s (k + 1) (zs.set (d + k) ((c + 2 ^ s * xs[k]) % 4294967296)) ((c + 2 ^ s * xs[k]) / 4294967296) := by
  obtain ⟨h1, h2, h3, h4⟩ := h
  refine ⟨h1.set_ _ _ (Nat.mod_lt _ (by omega)), ?_, ?_, fun i hi hki => ?_⟩
  · rw [Nat.div_lt_iff_lt_mul (by omega)]
    have : 2 ^ s * (xs[k] + 1) ≤ 2 ^ s * 4294967296 := Nat.mul_le_mul_left _ hx
    rw [Nat.mul_add] at this
    omega
  · have e1 := val_set 4294967296 zs (d + k) ((c + 2 ^ s * xs[k]) % 4294967296) hz
    rw [h4 (d + k) hz (Nat.le_refl _)] at e1
    rw [val_take_succ _ _ _ hk, show d + (k + 1) = d + k + 1 from by omega, Nat.pow_succ, Nat.mul_assoc]
    have e2 := Nat.mod_add_div (c + 2 ^ s * xs[k]) 4294967296
    generalize (c + 2 ^ s * xs[k]) % 4294967296 = a at *
    generalize (c + 2 ^ s * xs[k]) / 4294967296 = b at *
    have e3 : 4294967296 ^ (d + k) * a + 4294967296 ^ (d + k) * (4294967296 * b) = 4294967296 ^ (d + k) * c + 4294967296 ^ d * (4294967296 ^ k * xs[k] * 2 ^ s) := by
      rw [← Nat.mul_add, e2, Nat.mul_add, Nat.pow_add]
      congr 1
      rw [Nat.mul_assoc, Nat.mul_assoc, Nat.mul_comm (2 ^ s)]
    rw [Nat.add_mul, Nat.mul_add]
    omega
  · rw [List.getElem_set, if_neg (by omega)]
    exact h4 i (by simpa using hi) (by omega)
theorem Shifted.last {xs zs : List Nat} {d s c : Nat} (h : Shifted xs d s xs.length zs c) (hs : s < 32) (hz : d + xs.length < zs.length) :
    Dig 4294967296 (zs.set (d + xs.length) (c % 4294967296)) ∧ val 4294967296 (zs.set (d + xs.length) (c % 4294967296)) = val 4294967296 xs * 2 ^ (32 * d + s) := by
  obtain ⟨h1, h2, h3, h4⟩ := h
  have h5 : 2 ^ s ≤ 2 ^ 31 := Nat.pow_le_pow_right (by omega) (by omega)
  have hc : c % 4294967296 = c := Nat.mod_eq_of_lt (by omega)
  rw [hc]
  refine ⟨h1.set_ _ _ (by omega), ?_⟩
  have e1 := val_set 4294967296 zs (d + xs.length) c hz
  rw [h4 _ hz (Nat.le_refl _)] at e1
  rw [List.take_length] at h3
  rw [Nat.pow_add, Nat.pow_mul, show (2 : Nat) ^ 32 = 4294967296 from rfl, Nat.mul_comm (4294967296 ^ d), ← Nat.mul_assoc, Nat.mul_comm _ (4294967296 ^ d)]
  omega

set_option maxHeartbeats 800000 in
theorem shiftUp_any (A : Option Addr) (c : Nat) (xs : List Nat) (n d s : Nat) (w : World) (B : Nat) (hr : Rd w B A (u32s xs)) (hB : B ≤ w.heap.size) (hd : Dig 4294967296 xs) (hn : n = 32 * d + s) (hs : s < 32) (hm : d + xs.length + 1 ≤ 70368744177664) :
    Calls Tryz.prog 86 #[.slice A xs.length c, .int .i64 (n : Int)] w fun e w' => ∃ zs A' c', e = .returned (.slice A' zs.length c') ∧ Num 4294967296 zs (val 4294967296 xs * 2 ^ n) ∧ Res w' w.heap.size 61 A' c' (u32s zs) ∧ Below w.heap.size w w' := by
  have hmk : ∀ W : World, (Instr.makeSlice 26 (.int .i64 ((d : Int) + (xs.length : Int) + 1)) (.int .i64 ((d : Int) + (xs.length : Int) + 1))).run Tryz.prog W = .ok (.slice (some ⟨W.heap.size, 0, none⟩) (d + xs.length + 1) (d + xs.length + 1)) (W.alloc (.cells (List.replicate (d + xs.length + 1) (Value.int .u32 0)).toArray 61)) := fun W => by
    have := mk32 (d + xs.length + 1) hm W
    rwa [show ((d + xs.length + 1 : Nat) : Int) = (d : Int) + (xs.length : Int) + 1 from by omega] at this
  have q1 : (n : Int) / 32 = (d : Int) := by omega
  have q2 : (n : Int) % 32 = (s : Int) := by omega
  have nb : n < 9223372036854775807 := by omega
  have Hn := Lib.hid hn
  clear hn
  go_enter Tryz.func86, Tryz.ntmps86
  go_wp2_with (go_at_call 123; (with_reducible refine (lifter_any _ _).mono ?_); rintro e w1 ⟨rfl, hbn, hbc, hsz, hbel⟩)
  rw [size_alloc] at hbn hbc hsz hbel
  have hblk0 : Blk w1 w.heap.size 61 (u32s (List.replicate (d + xs.length + 1) 0)) := by
    have h0 : Blk (w.alloc (.cells (Array.replicate (d + xs.length + 1) (Value.int .u32 0)) 61)) w.heap.size 61 (u32s (List.replicate (d + xs.length + 1) 0)) := Blk.new_ (by simp [u32s])
    exact h0.below hbel (by omega)
  have hbel1 : Below w.heap.size w w1 := ((Below.refl _ _).alloc (Nat.le_refl _) _).trans (hbel.mono (by omega))
  clear hbel hsz
  go_loopw [7, 8, 22] (fun _ _ i wr => ∃ (k cc : Nat) (zs : List Nat), k ≤ xs.length ∧ i = .int .i64 k ∧ zs.length = d + xs.length + 1 ∧ Blk wr w.heap.size 61 (u32s zs) ∧ Blk wr (w.heap.size + 1) 69 [.int .u64 (s : Int)] ∧ Blk wr (w.heap.size + 1 + 1) 55 [.int .u64 (cc : Int)] ∧ Shifted xs d s k zs cc ∧ Below w.heap.size w wr) (fun _ _ i _ => xs.length - (intOf i).toNat)
  case atStart => exact ⟨0, 0, _, by omega, rfl, by simp, hblk0, hbn, hbc, Shifted.start xs d s _, hbel1⟩
  case round =>
    clear hblk0 hbn hbc hbel1
    obtain ⟨k, cc, zs, hk, rfl, hzl, hblk, hbn, hbc, hsh, hbel⟩ := hrel
    by_cases hlt : k < xs.length
    · obtain ⟨b, off, rfl, hb, hcell⟩ := hr (by intro e; have := u32s_length xs; rw [e] at this; simp at this; omega)
      have hx := (hbel.cell (p := ⟨b, off + k, none⟩) (show b < _ by omega)).trans (hcell k _ (u32s_at hlt))
      have hxd := hd.at_ k hlt
      have hcc := hsh.2.1
      have hz1 : d + k < zs.length := by omega
      have Hzl := Lib.hid hzl
      clear hcell hzl
      go_wp2_with (go_at_call 150; (with_reducible refine (lifter1_any _ cc s _ _ _ hs hxd hcc hbc hbn (by omega)).mono ?_); rintro e w2 ⟨rfl, hg2, hch⟩; have hq2 := hblk.ch hch (by omega); have hc2 := (hq2.cell (d + k)).trans (u32s_at hz1); have hf2 := hq2.frozen (d + k))
      go_roundw
      case rel =>
        refine ⟨k + 1, _, _, by omega, by go_num, ?_, ?_, (hbn.ch hch (by omega)).far (p := ⟨w.heap.size, d + k, none⟩) (by simp) _, hg2.far (p := ⟨w.heap.size, d + k, none⟩) (by simp; omega) _, hsh.step hlt hz1 hxd, (hbel.trans (hch.below (by omega))).setCell (p := ⟨w.heap.size, d + k, none⟩) (Nat.le_refl _) _⟩
        · simpa using Hzl.out
        · have hb2 := hq2.set_ (d + k) (Value.int IntKind.u32 (((cc + 2 ^ s * xs[k]) % 4294967296 : Nat) : Int))
          rw [u32s_set] at hb2
          exact hb2
      case measure => simp [intOf]; omega
    · obtain rfl : k = xs.length := by omega
      have hz1 : d + xs.length < zs.length := by omega
      have hcc := hsh.2.1
      have Hzl := Lib.hid hzl
      clear hzl
      go_wp2_with fail
      have hl1 := lifter1_any 0 cc s (w.heap.size + 1 + 1) (w.heap.size + 1) wr hs (by omega) hcc hbc hbn (by omega)
      rw [show cc + 2 ^ s * 0 = cc from by omega] at hl1
      refine hl1.mono ?_
      rintro e w2 ⟨rfl, hg2, hch⟩
      have hq2 := hblk.ch hch (by omega)
      have hc2 := (hq2.cell (d + xs.length)).trans (u32s_at hz1)
      have hf2 := hq2.frozen (d + xs.length)
      have hb2 : Blk (w2.setCell ⟨w.heap.size, d + xs.length, none⟩ (.int .u32 ((cc % 4294967296 : Nat) : Int))) w.heap.size 61 (u32s (zs.set (d + xs.length) (cc % 4294967296))) := by
        have := hq2.set_ (d + xs.length) (Value.int IntKind.u32 ((cc % 4294967296 : Nat) : Int))
        rwa [u32s_set] at this
      obtain ⟨ld, lv⟩ := hsh.last hs hz1
      obtain ⟨zs2, hzs2⟩ : ∃ zs2, zs2 = zs.set (d + xs.length) (cc % 4294967296) := ⟨_, rfl⟩
      rw [← hzs2] at hb2 ld lv
      have hl2 : Hid (zs2.length = d + xs.length + 1) := by rw [hzs2, List.length_set]; exact Hzl.out
      have hm2 : zs2.length ≤ 281474976710656 := by have := hl2.out; omega
      have Hlv := Lib.hid lv
      have hbel3 := (hbel.trans (hch.below (B := w.heap.size) (by omega))).setCell (p := ⟨w.heap.size, d + xs.length, none⟩) (Nat.le_refl _) (.int .u32 ((cc % 4294967296 : Nat) : Int))
      clear hzs2 lv hl1
      have hrd := (Res.of_blk0 hb2 (Nat.le_refl _) (by rw [u32s_length]; omega)).rd
      go_wp2_with (go_at_call 64; rw [← hl2.out]; refine (trim_any _ _ zs2 _ _ hrd (Nat.le_refl _) hm2).mono ?_; rintro e w3 ⟨rfl, rfl⟩)
      go_ret
      refine ⟨trimL zs2, _, _, rfl, ?_, ?_, hbel3⟩
      · have hz := Num.of_trim ld
        rw [Hlv.out, ← Hn.out] at hz
        exact hz
      · have h3 := (Res.of_blk0 hb2 (Nat.le_refl _) (by rw [u32s_length]; omega)).take (trimL zs2).length
        rw [← u32s_trim, u32s_length] at h3
        exact h3
end
end Go.Proofs.YtanlejlmckdeiaaGreatDoor
