/- The places of the bits that are 1: plain mathematics. No conditions. The contracts of TrailingZeros32 and of nat.Trail. Conditions: words; the table reads as it is laid. The trailing zeros of a number by its value: 2 to them divides it. Conditions: digits below the base. The contracts of lifter, dropper and their closures. -/
import Derived.Test.YtanlejlmckdeiaaDoorPkNp6
import Derived.Lib.TrailingZeros
import Derived.Test.YtanlejlmckdeiaaDoorPkNp5
import Derived.Shelf.Spec.TrailingZeros
import Derived.Test.YtanlejlmckdeiaaDoorPkNp9
namespace Go.Proofs.YtanlejlmckdeiaaDoor
section
open Go.RowKit

/-- The i-th bit of a number in limbs. -/
def bitAt (xs : List Nat) (i : Nat) : Nat := at0 xs (i / 32) / 2 ^ (i % 32) % 2
/-- How many ones. -/
def pop (n : Nat) : Nat := if h : n = 0 then 0 else n % 2 + pop (n / 2)
termination_by n
decreasing_by omega
def pops : List Nat → Nat
  | [] => 0
  | x :: xs => pop x + pops xs
theorem pop_zero : pop 0 = 0 := by rw [pop]; simp
theorem pop_rec (n : Nat) : pop n = n % 2 + pop (n / 2) := by
  by_cases h : n = 0
  · subst h; simp [pop_zero]
  · conv => lhs; rw [pop]
    simp [h]
theorem pop_double (n : Nat) : pop (2 * n) = pop n := by
  rw [pop_rec, show 2 * n % 2 = 0 from by omega, show 2 * n / 2 = n from by omega]; omega
theorem pop_odd (n : Nat) : pop (2 * n + 1) = pop n + 1 := by
  rw [pop_rec, show (2 * n + 1) % 2 = 1 from by omega, show (2 * n + 1) / 2 = n from by omega]; omega
theorem pop_shift (k n : Nat) : pop (2 ^ k * n) = pop n := by
  induction k with
  | zero => simp
  | succ k ih => rw [Nat.pow_succ, Nat.mul_comm (2 ^ k) 2, Nat.mul_assoc, pop_double, ih]
theorem pops_append (xs ys : List Nat) : pops (xs ++ ys) = pops xs + pops ys := by
  induction xs with
  | nil => simp [pops]
  | cons x xs ih => simp only [List.cons_append, pops, ih]; omega
theorem pops_take_succ (xs : List Nat) (k : Nat) (h : k < xs.length) : pops (xs.take (k + 1)) = pops (xs.take k) + pop xs[k] := by
  rw [List.take_succ_eq_append_getElem h, pops_append]
  simp [pops]
theorem pop_le : ∀ (n x : Nat), x < 2 ^ n → pop x ≤ n
  | 0, x, h => by
    have : x = 0 := by simpa using h
    rw [this, pop_zero]; omega
  | n + 1, x, h => by
    rw [pop_rec]
    have := pop_le n (x / 2) (by rw [Nat.pow_succ] at h; omega)
    omega
theorem pops_le {xs : List Nat} (hd : Dig 4294967296 xs) : pops xs ≤ 32 * xs.length := by
  induction xs with
  | nil => simp [pops]
  | cons x xs ih =>
    have h1 := pop_le 32 x hd.head_
    have h2 := ih hd.tail_
    simp only [pops, List.length_cons]; omega
theorem pops_trim (xs : List Nat) : pops (trimL xs) = pops xs := by
  induction xs with
  | nil => rfl
  | cons x xs ih =>
    simp only [trimL]
    split
    · rename_i e
      rw [e] at ih
      split
      · rename_i h0; rw [h0]; simp only [pops, pop_zero] at *; omega
      · simp only [pops] at *; omega
    · rename_i e
      rw [e] at ih
      simp only [pops] at *; omega

theorem bitAt_test (xs : List Nat) (i : Nat) : (at0 xs (i / 32)).testBit (i % 32) = decide (bitAt xs i = 1) := by
  rw [Nat.testBit_eq_decide_div_mod_eq]; rfl
theorem bitAt_in {xs : List Nat} {k t : Nat} (h : k < xs.length) (ht : t < 32) : bitAt xs (32 * k + t) = xs[k] / 2 ^ t % 2 := by
  unfold bitAt
  rw [show (32 * k + t) / 32 = k from by omega, show (32 * k + t) % 32 = t from by omega, at0_in h]
theorem bit_one {x t : Nat} (h : x.testBit t = true) : x / 2 ^ t % 2 = 1 := by
  rw [Nat.testBit_eq_decide_div_mod_eq] at h; exact of_decide_eq_true h
theorem bit_zero {x t : Nat} (h : x.testBit t = false) : x / 2 ^ t % 2 = 0 := by
  rw [Nat.testBit_eq_decide_div_mod_eq] at h
  have := of_decide_eq_false h
  omega

/-- What the step to the next one does. -/
structure Low (y t z : Nat) : Prop where
  lt : t < 32
  one : y.testBit t = true
  below : ∀ j, j < t → y.testBit j = false
  rest : ∀ j, z.testBit j = true → y.testBit j = true ∧ t < j
  pops : pop z + 1 = pop y
  less : z < y
theorem low_of {y : Nat} (h0 : y ≠ 0) (h : y < 4294967296) : Low y (Lib.ctz 32 y) (y &&& (y - 1)) := by
  obtain ⟨m, hm, hk⟩ := Lib.ctzFrom_spec 32 y (by omega) h
  have e0 : Lib.ctz 32 y = Lib.ctzFrom 32 y := by unfold Lib.ctz; rw [if_neg h0]
  rw [e0]
  obtain ⟨k, hke⟩ : ∃ k, k = Lib.ctzFrom 32 y := ⟨_, rfl⟩
  rw [← hke] at hm hk ⊢
  have hp := Nat.two_pow_pos k
  have e1 : y - 1 = 2 ^ k * (2 * m) + (2 ^ k - 1) := by rw [hm, Nat.mul_add]; omega
  have e2 : y = 2 ^ k * (2 * m + 1) + 0 := by rw [← hm]; rfl
  have b1 : ∀ j, y.testBit j = if j < k then false else (2 * m + 1).testBit (j - k) := fun j => by
    rw [e2, Nat.testBit_two_pow_mul_add _ hp]; simp
  have b2 : ∀ j, (y - 1).testBit j = if j < k then (2 ^ k - 1).testBit j else (2 * m).testBit (j - k) := fun j => by
    rw [e1, Nat.testBit_two_pow_mul_add _ (by omega)]
  have b3 : ∀ j, (2 ^ k * (2 * m)).testBit j = if j < k then false else (2 * m).testBit (j - k) := fun j => by
    have := Nat.testBit_two_pow_mul_add (2 * m) hp j
    rw [Nat.add_zero] at this
    rw [this]; simp
  have o1 : ∀ t, ((2 * m + 1).testBit t && (2 * m).testBit t) = (2 * m).testBit t := fun t => by
    cases t with
    | zero => simp
    | succ t => rw [Nat.testBit_succ, Nat.testBit_succ, show (2 * m + 1) / 2 = m from by omega, show 2 * m / 2 = m from by omega]; simp
  have ez : y &&& (y - 1) = 2 ^ k * (2 * m) := by
    refine Nat.eq_of_testBit_eq fun j => ?_
    rw [Nat.testBit_and, b1, b2, b3]
    by_cases hj : j < k
    · simp [hj]
    · simp only [hj, if_false]; exact o1 _
  rw [ez]
  refine ⟨hk, ?_, ?_, ?_, ?_, ?_⟩
  · rw [b1]; simp
  · intro j hj; rw [b1]; simp [hj]
  · intro j hj
    rw [b3] at hj
    by_cases hjk : j < k
    · simp [hjk] at hj
    · simp only [hjk, if_false] at hj
      rw [b1]; simp only [hjk, if_false]
      obtain ⟨t, ht⟩ : ∃ t, t = j - k := ⟨_, rfl⟩
      rw [← ht] at hj ⊢
      have h1 := o1 t
      rw [hj] at h1
      refine ⟨by simpa using h1, ?_⟩
      rcases Nat.eq_zero_or_pos t with h2 | h2
      · subst h2; simp at hj
      · omega
  · conv => rhs; rw [hm]
    rw [pop_shift, pop_shift, pop_double, pop_odd]
  · conv => rhs; rw [hm]
    rw [Nat.mul_add]; omega

/-- A place. -/
abbrev Pl := { x : Nat // x < 1152921504606846976 }
/-- The last place yielded; -1 ahead of the first. -/
def lastI (pre : List Pl) : Int := match pre.getLast? with
  | none => -1
  | some x => (x.1 : Int)
theorem lastI_nil : lastI [] = -1 := rfl
theorem lastI_snoc (pre : List Pl) (x : Pl) : lastI (pre ++ [x]) = (x.1 : Int) := by simp [lastI]
/-- Rising places, each of a one. -/
def Good (xs : List Nat) (pre : List Pl) : Prop := ∀ (p : List Pl) (x : Pl), (p ++ [x]) <+: pre → lastI p < (x.1 : Int) ∧ bitAt xs x.1 = 1
theorem Good.nil_ (xs : List Nat) : Good xs [] := fun p x h => by
  have := List.prefix_nil.1 h
  simp at this
theorem Good.step {xs : List Nat} {pre : List Pl} (h : Good xs pre) (x : Pl) (h1 : lastI pre < (x.1 : Int)) (h2 : bitAt xs x.1 = 1) : Good xs (pre ++ [x]) := fun p y hp => by
  rcases List.prefix_concat_iff.1 hp with e | e
  · obtain ⟨rfl, e2⟩ := List.append_inj' e rfl
    obtain rfl : y = x := by simpa using e2
    exact ⟨h1, h2⟩
  · exact h p y e
theorem Good.last {xs : List Nat} {pre : List Pl} {x : Pl} (h : Good xs (pre ++ [x])) : lastI pre < (x.1 : Int) ∧ bitAt xs x.1 = 1 := h pre x (List.prefix_refl _)

/-- Between two limbs; within one. -/
structure Limbs (xs : List Nat) (k : Nat) (pre : List Pl) : Prop where
  le : k ≤ xs.length
  good : Good xs pre
  count : pre.length = pops (xs.take k)
  last : lastI pre < 32 * (k : Int)
structure Inner (xs : List Nat) (k y : Nat) (pre : List Pl) : Prop where
  lt : k < xs.length
  yb : y < 4294967296
  good : Good xs pre
  count : pre.length + pop y = pops (xs.take (k + 1))
  last : lastI pre < 32 * ((k : Int) + 1)
  bits : ∀ j, y.testBit j = true → at0 xs k / 2 ^ j % 2 = 1 ∧ lastI pre < 32 * (k : Int) + (j : Int)
theorem Limbs.start (xs : List Nat) : Limbs xs 0 [] := ⟨by omega, Good.nil_ _, by simp [pops], by rw [lastI_nil]; omega⟩
theorem Limbs.enter {xs : List Nat} {k : Nat} {pre : List Pl} (h : Limbs xs k pre) (hd : Dig 4294967296 xs) (hk : k < xs.length) : Inner xs k xs[k] pre := by
  have h1 := h.last
  refine ⟨hk, hd.at_ k hk, h.good, by rw [pops_take_succ _ _ hk, h.count], by omega, fun j hj => ⟨?_, by omega⟩⟩
  rw [at0_in hk]; exact bit_one hj
theorem Inner.leave {xs : List Nat} {k : Nat} {pre : List Pl} (h : Inner xs k 0 pre) : Limbs xs (k + 1) pre := by
  have h1 := h.lt
  have h2 := h.last
  refine ⟨by omega, h.good, by have := h.count; rw [pop_zero] at this; omega, by omega⟩
theorem Inner.ok {xs : List Nat} {k y t z : Nat} {pre : List Pl} (h : Inner xs k y pre) (hl : Low y t z) : lastI pre < 32 * (k : Int) + (t : Int) ∧ bitAt xs (32 * k + t) = 1 := by
  have h1 := h.bits t hl.one
  refine ⟨h1.2, ?_⟩
  rw [bitAt_in h.lt hl.lt, ← at0_in h.lt]
  exact h1.1
theorem Inner.step {xs : List Nat} {k y t z : Nat} {pre : List Pl} (h : Inner xs k y pre) (hl : Low y t z) (x : Pl) (hx : x.1 = 32 * k + t) : Inner xs k z (pre ++ [x]) := by
  have h1 := h.ok hl
  have h2 := hl.less
  have h3 := h.yb
  have h4 := hl.lt
  have h5 := hl.pops
  refine ⟨h.lt, by omega, h.good.step x (by rw [hx]; omega) (by rw [hx]; exact h1.2), ?_, ?_, ?_⟩
  · rw [List.length_append, List.length_singleton]; have := h.count; omega
  · rw [lastI_snoc, hx]; omega
  · intro j hj
    obtain ⟨a, b⟩ := hl.rest j hj
    refine ⟨(h.bits j a).1, ?_⟩
    rw [lastI_snoc, hx]; omega

/-- The lowest place of a one; 0 if there is none. -/
def TrailIs (xs : List Nat) (t : Nat) : Prop := (t < 32 * xs.length ∧ bitAt xs t = 1 ∧ ∀ j, j < t → bitAt xs j ≠ 1) ∨ (t = 0 ∧ ∀ j, j < 32 * xs.length → bitAt xs j ≠ 1)
theorem trail_at {xs : List Nat} {k t z : Nat} (hk : k < xs.length) (h0 : ∀ j, j < k → at0 xs j = 0) (hl : Low xs[k] t z) : TrailIs xs (32 * k + t) := by
  have h1 := hl.lt
  refine Or.inl ⟨by omega, by rw [bitAt_in hk h1]; exact bit_one hl.one, fun j hj => ?_⟩
  rcases Nat.lt_or_ge j (32 * k) with h | h
  · unfold bitAt
    rw [h0 (j / 32) (by omega)]; simp
  · obtain ⟨s, rfl⟩ := Nat.exists_eq_add_of_le h
    rw [bitAt_in hk (by omega), bit_zero (hl.below s (by omega))]
    omega
theorem trail_none {xs : List Nat} (h0 : ∀ j, j < xs.length → at0 xs j = 0) : TrailIs xs 0 := Or.inr ⟨rfl, fun j hj => by
  unfold bitAt
  rw [h0 (j / 32) (by omega)]; simp⟩
end
section
open Go.RowKit

/-- The table of the library. -/
def Tab32 (w : World) : Prop := TabAt 0 Lib.deBruijn32tab w
theorem Tab32.below {w w' : World} {B : Nat} (h : Tab32 w) (hb : Below B w w') (hB : 0 < B) : Tab32 w' := fun j hj => (hb.cell (p := ⟨_, j, none⟩) hB).trans (h j hj)
theorem Tab32.dr {w w' : World} (h : Tab32 w) (hd : Dr w w') : Tab32 w' := by
  obtain ⟨n, rfl⟩ := hd
  exact h

set_option maxHeartbeats 800000 in
theorem tz32_any (x : Nat) (hx : x < 4294967296) (h0 : x ≠ 0) (w : World) (hT : Tab32 w) :
    Calls Tryd.prog 48 #[.int .u32 (x : Int)] w fun e w' => e = .returned (.int .i64 (Lib.ctz 32 x : Nat)) ∧ w = w' := by
  obtain ⟨hlow, hk⟩ := Lib.lowest_bit 32 x h0 hx
  obtain ⟨hi, htab⟩ := Lib.deBruijn32_at _ hk
  have hcell := hT _ hi
  rw [htab] at hcell
  have key := tz32_key x _ hx h0 hlow
  obtain ⟨k, hke⟩ : ∃ k, k = Lib.ctz 32 x := ⟨_, rfl⟩
  obtain ⟨idx, hidx⟩ : ∃ idx, idx = 2 ^ k * 125613361 % 4294967296 / 134217728 := ⟨_, rfl⟩
  rw [← hke, ← hidx] at hi hcell key
  rw [← hke] at hk ⊢
  have hx0 : ((x : Int) == 0) = false := by simp; omega
  clear hlow htab hT hke hidx h0
  go_enter Tryd.func48, Tryd.ntmps48
  go_wp2_with (simp only [key])
  go_ret
  exact ⟨rfl, rfl⟩

set_option maxHeartbeats 800000 in
theorem trail_any (A : Option Addr) (c : Nat) (xs : List Nat) (w : World) (B : Nat) (hr : Rd w B A (u32s xs)) (hd : Dig 4294967296 xs) (hm : xs.length ≤ 281474976710656) (hT : Tab32 w) :
    Calls Tryd.prog 31 #[.slice A xs.length c] w fun e w' => ∃ t : Nat, e = .returned (.int .i64 (t : Int)) ∧ TrailIs xs t ∧ w = w' := by
  go_enter Tryd.func31, Tryd.ntmps31
  go_wp2
  go_loopw [3, 4, 7] (fun _ _ i wr => ∃ k : Nat, k ≤ xs.length ∧ i = .int .i64 k ∧ wr = w ∧ ∀ j, j < k → at0 xs j = 0) (fun _ _ i _ => xs.length - (intOf i).toNat)
  case atStart => exact ⟨0, by omega, rfl, rfl, fun j hj => by omega⟩
  case round =>
    obtain ⟨k, hk, rfl, rfl, hz⟩ := hrel
    by_cases hlt : k < xs.length
    · obtain ⟨b, off, rfl, hb, hcell⟩ := hr (by intro e; have := u32s_length xs; rw [e] at this; simp at this; omega)
      have hx := hcell k _ (u32s_at hlt)
      have hxd := hd.at_ k hlt
      have Hz := Lib.hid hz
      by_cases h0 : xs[k] = 0
      · rw [h0] at hx
        have H0 := Lib.hid h0
        clear h0 hxd hcell hr hz
        go_wp2
        go_roundw
        case rel => exact ⟨k + 1, by omega, by go_num, by trivial, fun j hj => by
          rcases Nat.lt_or_ge j k with h | h
          · exact Hz.out j h
          · obtain rfl : j = k := by omega
            rw [at0_in hlt]; exact H0.out⟩
        case measure => simp [intOf]; omega
      · have Htr := Lib.hid (trail_at hlt hz (low_of h0 hxd))
        have Htz := Lib.hid (tz32_any xs[k] hxd h0 wr hT)
        have hctl := (low_of h0 hxd).lt
        obtain ⟨t, ht⟩ : ∃ t, t = Lib.ctz 32 xs[k] := ⟨_, rfl⟩
        rw [← ht] at Htr Htz hctl
        obtain ⟨x, hxe⟩ : ∃ x, x = xs[k] := ⟨_, rfl⟩
        rw [← hxe] at hx Htz h0 hxd
        have t1 : ((x : Int) == 0) = false := by simp; omega
        clear hcell hr hz ht hxe h0
        go_wp2_with (go_at_call 48; (with_reducible refine Htz.out.mono ?_); rintro e w' ⟨rfl, rfl⟩)
        go_ret
        exact ⟨32 * k + t, by simp, Htr.out, rfl⟩
    · obtain rfl : k = xs.length := by omega
      have Hz := Lib.hid hz
      clear hz
      go_wp2
      go_ret
      exact ⟨0, rfl, trail_none Hz.out, rfl⟩

theorem trail_exists (xs : List Nat) : ∃ t, TrailIs xs t := by
  have h : ∀ m, (∀ j, j < m → bitAt xs j ≠ 1) ∨ ∃ t, t < m ∧ bitAt xs t = 1 ∧ ∀ j, j < t → bitAt xs j ≠ 1 := by
    intro m
    induction m with
    | zero => exact Or.inl fun j hj => by omega
    | succ m ih =>
      rcases ih with ih | ⟨t, h1, h2, h3⟩
      · by_cases hb : bitAt xs m = 1
        · exact Or.inr ⟨m, by omega, hb, ih⟩
        · refine Or.inl fun j hj => ?_
          rcases Nat.lt_or_ge j m with h | h
          · exact ih j h
          · obtain rfl : j = m := by omega
            exact hb
      · exact Or.inr ⟨t, by omega, h2, h3⟩
  rcases h (32 * xs.length) with h | ⟨t, h1, h2, h3⟩
  · exact ⟨0, Or.inr ⟨rfl, h⟩⟩
  · exact ⟨t, Or.inl ⟨h1, h2, h3⟩⟩
theorem TrailIs.unique {xs : List Nat} {s t : Nat} (h : TrailIs xs s) (k : TrailIs xs t) : s = t := by
  rcases h with ⟨a, b, c⟩ | ⟨rfl, c⟩ <;> rcases k with ⟨a', b', c'⟩ | ⟨rfl, c'⟩
  · rcases Nat.lt_trichotomy s t with h | h | h
    · exact absurd b (c' s h)
    · exact h
    · exact absurd b' (c t h)
  · exact absurd b (c' s a)
  · exact absurd b' (c t a')
  · rfl
theorem trail_fix (A : Option Addr) (c : Nat) (xs : List Nat) (t : Nat) (ht : TrailIs xs t) (w : World) (B : Nat) (hr : Rd w B A (u32s xs)) (hd : Dig 4294967296 xs) (hm : xs.length ≤ 281474976710656) (hT : Tab32 w) :
    Calls Tryd.prog 31 #[.slice A xs.length c] w fun e w' => e = .returned (.int .i64 (t : Int)) ∧ w = w' :=
  (trail_any A c xs w B hr hd hm hT).mono fun e w' ⟨s, he, hs, hw⟩ => ⟨by rw [he, hs.unique ht], hw⟩
end
section
open Go.RowKit

theorem drop_at {b : Nat} {qs : List Nat} {k : Nat} (h : k < qs.length) : val b (qs.drop k) = qs[k] + b * val b (qs.drop (k + 1)) := by
  rw [List.drop_eq_getElem_cons h]
  rfl
theorem bitAt_val {xs : List Nat} (hd : Dig 4294967296 xs) (i : Nat) : bitAt xs i = val 4294967296 xs / 2 ^ i % 2 := by
  have h1 : (2 : Nat) ^ i = 4294967296 ^ (i / 32) * 2 ^ (i % 32) := by
    rw [show (4294967296 : Nat) = 2 ^ 32 from rfl, ← Nat.pow_mul, ← Nat.pow_add]
    congr 1
    omega
  rw [h1, ← Nat.div_div_eq_div_mul, ← val_drop (by omega) xs _ hd]
  unfold bitAt
  by_cases hk : i / 32 < xs.length
  · rw [drop_at hk, at0_in hk]
    have hp : (4294967296 : Nat) = 2 ^ (i % 32) * (2 * 2 ^ (31 - i % 32)) := by
      rw [← Nat.mul_assoc, ← Nat.pow_succ, ← Nat.pow_add, show i % 32 + 1 + (31 - i % 32) = 32 from by omega]
    obtain ⟨V, hV⟩ : ∃ V, V = val 4294967296 (xs.drop (i / 32 + 1)) := ⟨_, rfl⟩
    rw [← hV]
    have hp2 : xs[i / 32] + 4294967296 * V = xs[i / 32] + 2 ^ (i % 32) * (2 * (2 ^ (31 - i % 32) * V)) := by
      conv => lhs; rw [hp]
      simp only [Nat.mul_assoc]
    rw [hp2, Nat.add_mul_div_left _ _ (Nat.two_pow_pos _), Nat.add_mul_mod_self_left]
  · rw [at0_out (by omega), List.drop_eq_nil_of_le (by omega)]
    simp [val]
theorem dvd_of_bits {a t : Nat} (h : ∀ j, j < t → a / 2 ^ j % 2 = 0) : 2 ^ t ∣ a := by
  induction t with
  | zero => exact ⟨a, by simp⟩
  | succ t ih =>
    obtain ⟨m, hm⟩ := ih fun j hj => h j (by omega)
    have h1 := h t (by omega)
    rw [hm, Nat.mul_div_cancel_left _ (Nat.two_pow_pos t)] at h1
    refine ⟨m / 2, ?_⟩
    rw [Nat.pow_succ, Nat.mul_assoc, hm]
    congr 1
    omega
theorem TrailIs.dvd {xs : List Nat} {t : Nat} (hd : Dig 4294967296 xs) (h : TrailIs xs t) : 2 ^ t ∣ val 4294967296 xs := by
  rcases h with ⟨_, _, h⟩ | ⟨rfl, _⟩
  · refine dvd_of_bits fun j hj => ?_
    have := h j hj
    rw [bitAt_val hd] at this
    omega
  · exact ⟨val 4294967296 xs, by simp⟩
end
section
open Go.RowKit

theorem lifter_any (n : Nat) (w : World) : Calls Tryd.prog 36 #[.int .u64 (n : Int)] w fun e w' => e = .returned (.func (.func 52) #[] #[.pointer (some ⟨w.heap.size + 1, 0, none⟩), .pointer (some ⟨w.heap.size, 0, none⟩)]) ∧
    Blk w' w.heap.size 49 [.int .u64 (n : Int)] ∧ Blk w' (w.heap.size + 1) 38 [.int .u64 ((0 : Nat) : Int)] ∧ w'.heap.size = w.heap.size + 2 ∧ Below w.heap.size w w' := by
  have hmf : ∀ (fn : Fn) (first cap : Array Value) (w : World), (Instr.makeFunc fn first cap).run Tryd.prog w = .ok (.func fn first cap) w := fun _ _ _ _ => rfl
  go_enter Tryd.func36, Tryd.ntmps36
  go_wp2
  go_ret
  exact ⟨rfl, (Blk.new_ rfl).heapAlloc _, blk_two rfl, by simp, ((Below.refl _ _).alloc (Nat.le_refl _) _).alloc (by simp) _⟩

theorem dropper_any (n : Nat) (w : World) : Calls Tryd.prog 35 #[.int .u64 (n : Int)] w fun e w' => e = .returned (.func (.func 51) #[] #[.pointer (some ⟨w.heap.size + 1, 0, none⟩), .pointer (some ⟨w.heap.size, 0, none⟩)]) ∧
    Blk w' w.heap.size 49 [.int .u64 (n : Int)] ∧ Blk w' (w.heap.size + 1) 38 [.int .u64 ((0 : Nat) : Int)] ∧ w'.heap.size = w.heap.size + 2 ∧ Below w.heap.size w w' := by
  have hmf : ∀ (fn : Fn) (first cap : Array Value) (w : World), (Instr.makeFunc fn first cap).run Tryd.prog w = .ok (.func fn first cap) w := fun _ _ _ _ => rfl
  go_enter Tryd.func35, Tryd.ntmps35
  go_wp2
  go_ret
  exact ⟨rfl, (Blk.new_ rfl).heapAlloc _, blk_two rfl, by simp, ((Below.refl _ _).alloc (Nat.le_refl _) _).alloc (by simp) _⟩

set_option maxHeartbeats 400000 in
theorem lifter1_any (x c n g h : Nat) (w : World) (hn : n < 32) (hx : x < 4294967296) (hc : c < 2 ^ n) (hg : Blk w g 38 [.int .u64 (c : Int)]) (hh : Blk w h 49 [.int .u64 (n : Int)]) (hne : h ≠ g) :
    Calls Tryd.prog 52 #[.int .u32 (x : Int), .pointer (some ⟨g, 0, none⟩), .pointer (some ⟨h, 0, none⟩)] w fun e w' => e = .returned (.int .u32 (((c + 2 ^ n * x) % 4294967296 : Nat) : Int)) ∧ Blk w' g 38 [.int .u64 (((c + 2 ^ n * x) / 4294967296 : Nat) : Int)] ∧ Ch g w w' := by
  obtain ⟨s, hs⟩ : ∃ s, s = c + 2 ^ n * x := ⟨_, rfl⟩
  obtain ⟨e1, hb⟩ := shift_or c x n hn hc hx
  rw [← hs] at e1 hb ⊢
  have c1 := hg.cell0
  have c2 := hh.cell0
  have f1 := hg.frozen 0
  have e2 : ¬ (h = g) := hne
  have Hs := Lib.hid hs
  clear hs
  go_enter Tryd.func52, Tryd.ntmps52
  go_wp2
  go_ret
  refine ⟨by simp, ?_, ((Ch.refl g w).setCell 0 _).setCell 0 _⟩
  have hb2 := (hg.set_ 0 (.int .u64 (s : Int))).set_ 0 (.int .u64 ((s / 4294967296 : Nat) : Int))
  simpa using hb2

set_option maxHeartbeats 400000 in
set_option maxRecDepth 100000 in
theorem dropper1_any (x c n g h : Nat) (w : World) (hn : n < 32) (hx : x < 4294967296) (_ : c < 18446744073709551616) (hg : Blk w g 38 [.int .u64 (c : Int)]) (hh : Blk w h 49 [.int .u64 (n : Int)]) (hne : h ≠ g) :
    Calls Tryd.prog 51 #[.int .u32 (x : Int), .pointer (some ⟨g, 0, none⟩), .pointer (some ⟨h, 0, none⟩)] w fun e w' => e = .returned (.int .u32 (((c % 4294967296 * 4294967296 + x) / 2 ^ n % 4294967296 : Nat) : Int)) ∧ Blk w' g 38 [.int .u64 ((c % 4294967296 * 4294967296 + x : Nat) : Int)] ∧ Ch g w w' := by
  obtain ⟨s, hs⟩ : ∃ s, s = c % 4294967296 * 4294967296 + x := ⟨_, rfl⟩
  have e1 : bits BinOp.or IntKind.u64 (IntKind.u64.wrap ((c : Int) * 4294967296)) (x : Int) = (s : Int) := by
    have e : IntKind.u64.wrap ((c : Int) * 4294967296) = ((c % 4294967296 * 4294967296 : Nat) : Int) := by
      rw [IntKind.wrap_u64]; omega
    rw [e, u64_or_nat _ x (by omega) (by omega)]
    have := or_shift x (c % 4294967296) 32 (by omega)
    rw [show (2 : Nat) ^ 32 = 4294967296 from rfl] at this
    rw [this, hs]; congr 1; omega
  have hb : s < 18446744073709551616 := by omega
  rw [← hs]
  have c1 := hg.cell0
  have c2 := hh.cell0
  have f1 := hg.frozen 0
  have e2 : ¬ (h = g) := hne
  have Hs := Lib.hid hs
  clear hs
  go_enter Tryd.func51, Tryd.ntmps51
  go_wp2
  go_ret
  refine ⟨by simp, ?_, (Ch.refl g w).setCell 0 _⟩
  have hb2 := hg.set_ 0 (.int .u64 (s : Int))
  simpa using hb2
end
end Go.Proofs.YtanlejlmckdeiaaDoor
