/- The places of the bits that are 1: plain mathematics. No conditions. The contract of nat.Bit. No conditions beyond the sizes. The contracts of zint's Euclid, Trunc, Exact, Near and Of. Conditions: at most 2^26 limbs. -/
import Derived.Test.YtanlejlmckdeiaaGreatDoorPkZg6
import Derived.Lib.TrailingZeros
import Derived.Test.YtanlejlmckdeiaaGreatDoorPkZg5
import Derived.Test.YtanlejlmckdeiaaGreatDoorPkZg18
import Derived.Test.YtanlejlmckdeiaaGreatDoorPkZg19
import Derived.Test.YtanlejlmckdeiaaGreatDoorPkZg20
import Derived.Test.YtanlejlmckdeiaaGreatDoorPkZg21
namespace Go.Proofs.YtanlejlmckdeiaaGreatDoor
section
open Go.RowKit

/-- The i-th bit of a number in limbs. -/
def bitAt (xs : List Nat) (i : Nat) : Nat := at0 xs (i / 32) / 2 ^ (i % 32) % 2
/-- How many ones. -/
def pop (n : Nat) : Nat := if h : n = 0 then 0 else n % 2 + pop (n / 2)
termination_by n
decreasing_by omega
def pops : List Nat → Nat
  | [] => 0
  | x :: xs => pop x + pops xs
theorem pop_zero : pop 0 = 0 := by rw [pop]; simp
theorem pop_rec (n : Nat) : pop n = n % 2 + pop (n / 2) := by
  by_cases h : n = 0
  · subst h; simp [pop_zero]
  · conv => lhs; rw [pop]
    simp [h]
theorem pop_double (n : Nat) : pop (2 * n) = pop n := by
  rw [pop_rec, show 2 * n % 2 = 0 from by omega, show 2 * n / 2 = n from by omega]; omega
theorem pop_odd (n : Nat) : pop (2 * n + 1) = pop n + 1 := by
  rw [pop_rec, show (2 * n + 1) % 2 = 1 from by omega, show (2 * n + 1) / 2 = n from by omega]; omega
theorem pop_shift (k n : Nat) : pop (2 ^ k * n) = pop n := by
  induction k with
  | zero => simp
  | succ k ih => rw [Nat.pow_succ, Nat.mul_comm (2 ^ k) 2, Nat.mul_assoc, pop_double, ih]
theorem pops_append (xs ys : List Nat) : pops (xs ++ ys) = pops xs + pops ys := by
  induction xs with
  | nil => simp [pops]
  | cons x xs ih => simp only [List.cons_append, pops, ih]; omega
theorem pops_take_succ (xs : List Nat) (k : Nat) (h : k < xs.length) : pops (xs.take (k + 1)) = pops (xs.take k) + pop xs[k] := by
  rw [List.take_succ_eq_append_getElem h, pops_append]
  simp [pops]
theorem pop_le : ∀ (n x : Nat), x < 2 ^ n → pop x ≤ n
  | 0, x, h => by
    have : x = 0 := by simpa using h
    rw [this, pop_zero]; omega
  | n + 1, x, h => by
    rw [pop_rec]
    have := pop_le n (x / 2) (by rw [Nat.pow_succ] at h; omega)
    omega
theorem pops_le {xs : List Nat} (hd : Dig 4294967296 xs) : pops xs ≤ 32 * xs.length := by
  induction xs with
  | nil => simp [pops]
  | cons x xs ih =>
    have h1 := pop_le 32 x hd.head_
    have h2 := ih hd.tail_
    simp only [pops, List.length_cons]; omega
theorem pops_trim (xs : List Nat) : pops (trimL xs) = pops xs := by
  induction xs with
  | nil => rfl
  | cons x xs ih =>
    simp only [trimL]
    split
    · rename_i e
      rw [e] at ih
      split
      · rename_i h0; rw [h0]; simp only [pops, pop_zero] at *; omega
      · simp only [pops] at *; omega
    · rename_i e
      rw [e] at ih
      simp only [pops] at *; omega

theorem bitAt_test (xs : List Nat) (i : Nat) : (at0 xs (i / 32)).testBit (i % 32) = decide (bitAt xs i = 1) := by
  rw [Nat.testBit_eq_decide_div_mod_eq]; rfl
theorem bitAt_in {xs : List Nat} {k t : Nat} (h : k < xs.length) (ht : t < 32) : bitAt xs (32 * k + t) = xs[k] / 2 ^ t % 2 := by
  unfold bitAt
  rw [show (32 * k + t) / 32 = k from by omega, show (32 * k + t) % 32 = t from by omega, at0_in h]
theorem bit_one {x t : Nat} (h : x.testBit t = true) : x / 2 ^ t % 2 = 1 := by
  rw [Nat.testBit_eq_decide_div_mod_eq] at h; exact of_decide_eq_true h
theorem bit_zero {x t : Nat} (h : x.testBit t = false) : x / 2 ^ t % 2 = 0 := by
  rw [Nat.testBit_eq_decide_div_mod_eq] at h
  have := of_decide_eq_false h
  omega

/-- What the step to the next one does. -/
structure Low (y t z : Nat) : Prop where
  lt : t < 32
  one : y.testBit t = true
  below : ∀ j, j < t → y.testBit j = false
  rest : ∀ j, z.testBit j = true → y.testBit j = true ∧ t < j
  pops : pop z + 1 = pop y
  less : z < y
theorem low_of {y : Nat} (h0 : y ≠ 0) (h : y < 4294967296) : Low y (Lib.ctz 32 y) (y &&& (y - 1)) := by
  obtain ⟨m, hm, hk⟩ := Lib.ctzFrom_spec 32 y (by omega) h
  have e0 : Lib.ctz 32 y = Lib.ctzFrom 32 y := by unfold Lib.ctz; rw [if_neg h0]
  rw [e0]
  obtain ⟨k, hke⟩ : ∃ k, k = Lib.ctzFrom 32 y := ⟨_, rfl⟩
  rw [← hke] at hm hk ⊢
  have hp := Nat.two_pow_pos k
  have e1 : y - 1 = 2 ^ k * (2 * m) + (2 ^ k - 1) := by rw [hm, Nat.mul_add]; omega
  have e2 : y = 2 ^ k * (2 * m + 1) + 0 := by rw [← hm]; rfl
  have b1 : ∀ j, y.testBit j = if j < k then false else (2 * m + 1).testBit (j - k) := fun j => by
    rw [e2, Nat.testBit_two_pow_mul_add _ hp]; simp
  have b2 : ∀ j, (y - 1).testBit j = if j < k then (2 ^ k - 1).testBit j else (2 * m).testBit (j - k) := fun j => by
    rw [e1, Nat.testBit_two_pow_mul_add _ (by omega)]
  have b3 : ∀ j, (2 ^ k * (2 * m)).testBit j = if j < k then false else (2 * m).testBit (j - k) := fun j => by
    have := Nat.testBit_two_pow_mul_add (2 * m) hp j
    rw [Nat.add_zero] at this
    rw [this]; simp
  have o1 : ∀ t, ((2 * m + 1).testBit t && (2 * m).testBit t) = (2 * m).testBit t := fun t => by
    cases t with
    | zero => simp
    | succ t => rw [Nat.testBit_succ, Nat.testBit_succ, show (2 * m + 1) / 2 = m from by omega, show 2 * m / 2 = m from by omega]; simp
  have ez : y &&& (y - 1) = 2 ^ k * (2 * m) := by
    refine Nat.eq_of_testBit_eq fun j => ?_
    rw [Nat.testBit_and, b1, b2, b3]
    by_cases hj : j < k
    · simp [hj]
    · simp only [hj, if_false]; exact o1 _
  rw [ez]
  refine ⟨hk, ?_, ?_, ?_, ?_, ?_⟩
  · rw [b1]; simp
  · intro j hj; rw [b1]; simp [hj]
  · intro j hj
    rw [b3] at hj
    by_cases hjk : j < k
    · simp [hjk] at hj
    · simp only [hjk, if_false] at hj
      rw [b1]; simp only [hjk, if_false]
      obtain ⟨t, ht⟩ : ∃ t, t = j - k := ⟨_, rfl⟩
      rw [← ht] at hj ⊢
      have h1 := o1 t
      rw [hj] at h1
      refine ⟨by simpa using h1, ?_⟩
      rcases Nat.eq_zero_or_pos t with h2 | h2
      · subst h2; simp at hj
      · omega
  · conv => rhs; rw [hm]
    rw [pop_shift, pop_shift, pop_double, pop_odd]
  · conv => rhs; rw [hm]
    rw [Nat.mul_add]; omega

/-- A place. -/
abbrev Pl := { x : Nat // x < 1152921504606846976 }
/-- The last place yielded; -1 ahead of the first. -/
def lastI (pre : List Pl) : Int := match pre.getLast? with
  | none => -1
  | some x => (x.1 : Int)
theorem lastI_nil : lastI [] = -1 := rfl
theorem lastI_snoc (pre : List Pl) (x : Pl) : lastI (pre ++ [x]) = (x.1 : Int) := by simp [lastI]
/-- Rising places, each of a one. -/
def Good (xs : List Nat) (pre : List Pl) : Prop := ∀ (p : List Pl) (x : Pl), (p ++ [x]) <+: pre → lastI p < (x.1 : Int) ∧ bitAt xs x.1 = 1
theorem Good.nil_ (xs : List Nat) : Good xs [] := fun p x h => by
  have := List.prefix_nil.1 h
  simp at this
theorem Good.step {xs : List Nat} {pre : List Pl} (h : Good xs pre) (x : Pl) (h1 : lastI pre < (x.1 : Int)) (h2 : bitAt xs x.1 = 1) : Good xs (pre ++ [x]) := fun p y hp => by
  rcases List.prefix_concat_iff.1 hp with e | e
  · obtain ⟨rfl, e2⟩ := List.append_inj' e rfl
    obtain rfl : y = x := by simpa using e2
    exact ⟨h1, h2⟩
  · exact h p y e
theorem Good.last {xs : List Nat} {pre : List Pl} {x : Pl} (h : Good xs (pre ++ [x])) : lastI pre < (x.1 : Int) ∧ bitAt xs x.1 = 1 := h pre x (List.prefix_refl _)

/-- Between two limbs; within one. -/
structure Limbs (xs : List Nat) (k : Nat) (pre : List Pl) : Prop where
  le : k ≤ xs.length
  good : Good xs pre
  count : pre.length = pops (xs.take k)
  last : lastI pre < 32 * (k : Int)
structure Inner (xs : List Nat) (k y : Nat) (pre : List Pl) : Prop where
  lt : k < xs.length
  yb : y < 4294967296
  good : Good xs pre
  count : pre.length + pop y = pops (xs.take (k + 1))
  last : lastI pre < 32 * ((k : Int) + 1)
  bits : ∀ j, y.testBit j = true → at0 xs k / 2 ^ j % 2 = 1 ∧ lastI pre < 32 * (k : Int) + (j : Int)
theorem Limbs.start (xs : List Nat) : Limbs xs 0 [] := ⟨by omega, Good.nil_ _, by simp [pops], by rw [lastI_nil]; omega⟩
theorem Limbs.enter {xs : List Nat} {k : Nat} {pre : List Pl} (h : Limbs xs k pre) (hd : Dig 4294967296 xs) (hk : k < xs.length) : Inner xs k xs[k] pre := by
  have h1 := h.last
  refine ⟨hk, hd.at_ k hk, h.good, by rw [pops_take_succ _ _ hk, h.count], by omega, fun j hj => ⟨?_, by omega⟩⟩
  rw [at0_in hk]; exact bit_one hj
theorem Inner.leave {xs : List Nat} {k : Nat} {pre : List Pl} (h : Inner xs k 0 pre) : Limbs xs (k + 1) pre := by
  have h1 := h.lt
  have h2 := h.last
  refine ⟨by omega, h.good, by have := h.count; rw [pop_zero] at this; omega, by omega⟩
theorem Inner.ok {xs : List Nat} {k y t z : Nat} {pre : List Pl} (h : Inner xs k y pre) (hl : Low y t z) : lastI pre < 32 * (k : Int) + (t : Int) ∧ bitAt xs (32 * k + t) = 1 := by
  have h1 := h.bits t hl.one
  refine ⟨h1.2, ?_⟩
  rw [bitAt_in h.lt hl.lt, ← at0_in h.lt]
  exact h1.1
theorem Inner.step {xs : List Nat} {k y t z : Nat} {pre : List Pl} (h : Inner xs k y pre) (hl : Low y t z) (x : Pl) (hx : x.1 = 32 * k + t) : Inner xs k z (pre ++ [x]) := by
  have h1 := h.ok hl
  have h2 := hl.less
  have h3 := h.yb
  have h4 := hl.lt
  have h5 := hl.pops
  refine ⟨h.lt, by omega, h.good.step x (by rw [hx]; omega) (by rw [hx]; exact h1.2), ?_, ?_, ?_⟩
  · rw [List.length_append, List.length_singleton]; have := h.count; omega
  · rw [lastI_snoc, hx]; omega
  · intro j hj
    obtain ⟨a, b⟩ := hl.rest j hj
    refine ⟨(h.bits j a).1, ?_⟩
    rw [lastI_snoc, hx]; omega

/-- The lowest place of a one; 0 if there is none. -/
def TrailIs (xs : List Nat) (t : Nat) : Prop := (t < 32 * xs.length ∧ bitAt xs t = 1 ∧ ∀ j, j < t → bitAt xs j ≠ 1) ∨ (t = 0 ∧ ∀ j, j < 32 * xs.length → bitAt xs j ≠ 1)
theorem trail_at {xs : List Nat} {k t z : Nat} (hk : k < xs.length) (h0 : ∀ j, j < k → at0 xs j = 0) (hl : Low xs[k] t z) : TrailIs xs (32 * k + t) := by
  have h1 := hl.lt
  refine Or.inl ⟨by omega, by rw [bitAt_in hk h1]; exact bit_one hl.one, fun j hj => ?_⟩
  rcases Nat.lt_or_ge j (32 * k) with h | h
  · unfold bitAt
    rw [h0 (j / 32) (by omega)]; simp
  · obtain ⟨s, rfl⟩ := Nat.exists_eq_add_of_le h
    rw [bitAt_in hk (by omega), bit_zero (hl.below s (by omega))]
    omega
theorem trail_none {xs : List Nat} (h0 : ∀ j, j < xs.length → at0 xs j = 0) : TrailIs xs 0 := Or.inr ⟨rfl, fun j hj => by
  unfold bitAt
  rw [h0 (j / 32) (by omega)]; simp⟩
end
section
open Go.RowKit

/-- A bit, of any place. -/
def bitOf (xs : List Nat) (i : Int) : Nat := if i < 0 then 0 else bitAt xs i.toNat
theorem bitAt_le (xs : List Nat) (i : Nat) : bitAt xs i < 2 := Nat.mod_lt _ (by omega)
theorem bitAt_out {xs : List Nat} {i : Nat} (h : 32 * xs.length ≤ i) : bitAt xs i = 0 := by
  unfold bitAt
  rw [at0_out (by omega)]; simp

theorem shr_nat (x t : Nat) : (x : Int) / 2 ^ t = ((x / 2 ^ t : Nat) : Int) := by rw [Int.natCast_ediv, Int.natCast_pow]; rfl
theorem one_bit (x : Nat) (h : x < 18446744073709551616) : bits .and .u64 (x : Int) 1 = ((x % 2 : Nat) : Int) := by
  have := bits_and_u64_nat x 1 h (by omega)
  rw [show ((1 : Nat) : Int) = 1 from rfl] at this
  rw [this, Nat.and_one_is_mod]
theorem one_bitw (x : Nat) (h : x < 18446744073709551616) : bits .and .u64 (IntKind.u64.wrap (x : Int)) 1 = ((x % 2 : Nat) : Int) := by
  rw [show IntKind.u64.wrap (x : Int) = (x : Int) from by rw [IntKind.wrap_u64]; omega, one_bit _ h]

set_option maxHeartbeats 800000 in
theorem bit_any (A : Option Addr) (c : Nat) (xs : List Nat) (i : Int) (w : World) (B : Nat) (hr : Rd w B A (u32s xs)) (hd : Dig 4294967296 xs) (hm : xs.length ≤ 281474976710656) (hi : i ≤ 9223372036854775807) :
    Calls Tryz.prog 62 #[.slice A xs.length c, .int .i64 i] w fun e w' => e = .returned (.int .u64 (bitOf xs i : Nat)) ∧ Dr w w' := by
  obtain ⟨b0, hb0⟩ : ∃ b0, b0 = bitOf xs i := ⟨_, rfl⟩
  rw [← hb0]
  unfold bitOf at hb0
  rcases Int.lt_or_le i 0 with h0 | h0
  · rw [if_pos h0] at hb0
    subst hb0
    have t0 : decide (i < 0) = true := decide_eq_true h0
    go_enter Tryz.func62, Tryz.ntmps62
    go_wp2_with fail
    go_ret
    exact ⟨rfl, Dr.refl _⟩
  · rw [if_neg (by omega)] at hb0
    obtain ⟨n, rfl⟩ := Int.eq_ofNat_of_zero_le h0
    rw [Int.toNat_natCast] at hb0
    have t0 : decide ((n : Int) < 0) = false := by simp
    obtain ⟨k, t, hn, ht⟩ : ∃ k t, n = 32 * k + t ∧ t < 32 := ⟨n / 32, n % 32, by omega, by omega⟩
    have q1 : (n : Int) / 32 = (k : Int) := by omega
    have q2 : (n : Int) % 32 = (t : Int) := by omega
    rw [hn] at hb0
    clear hn
    by_cases hlt : k < xs.length
    · have t1 : decide ((xs.length : Int) ≤ (k : Int)) = false := by simp; omega
      rw [bitAt_in hlt ht] at hb0
      obtain ⟨b, off, rfl, hb, hcell⟩ := hr (by intro e; have := u32s_length xs; rw [e] at this; simp at this; omega)
      have hx := hcell k _ (u32s_at hlt)
      have hxd := hd.at_ k hlt
      obtain ⟨x, hxe⟩ : ∃ x, x = xs[k] := ⟨_, rfl⟩
      rw [← hxe] at hx hxd hb0
      have Hb0 := Lib.hid hb0
      have Ht := Lib.hid ht
      have hps : Hid (x / 2 ^ t < 4294967296) := by show _ < _; have := Nat.div_le_self x (2 ^ t); omega
      clear hcell hr hxe hb0
      go_enter Tryz.func62, Tryz.ntmps62
      go_wp2_with (first | (simp only [q2]) | (simp only [q1]) | (simp only [q2]))
      go_ret
      refine ⟨?_, Dr.refl _⟩
      rw [Hb0.out]
      have hq := hps.out
      show Ending.returned (.int .u64 (bits .and .u64 (IntKind.u64.wrap ((x : Int) / 2 ^ t)) 1)) = _
      rw [shr_nat, one_bitw _ (by omega)]
    · rw [bitAt_out (by omega)] at hb0
      subst hb0
      have t1 : decide ((xs.length : Int) ≤ (k : Int)) = true := by simp; omega
      go_enter Tryz.func62, Tryz.ntmps62
      go_wp2_with (first | (simp only [q1, q2]) | (simp only [q1]) | (simp only [q2]))
      go_ret
      exact ⟨rfl, Dr.refl _⟩
end
section
open Go.RowKit

/-- What a division answers: a quotient, a remainder, an error's number. -/
def ZQ (w w' : World) (q r er : Int) (e : Ending) : Prop := ∃ qs rs A1 c1 A3 c3, e = .returned (.tuple #[.agg #[.bool (isNeg q), .slice A1 qs.length c1], .agg #[.bool (isNeg r), .slice A3 rs.length c3], .int .i64 er]) ∧ Num 4294967296 qs q.natAbs ∧ Num 4294967296 rs r.natAbs ∧ Res w' w.heap.size 61 A1 c1 (u32s qs) ∧ Res w' w.heap.size 61 A3 c3 (u32s rs) ∧ Below w.heap.size w w'
/-- What a call answers that tells an integer and an error's number. -/
def ZE (w w' : World) (q er : Int) (e : Ending) : Prop := ∃ qs A1 c1, e = .returned (.tuple #[.agg #[.bool (isNeg q), .slice A1 qs.length c1], .int .i64 er]) ∧ Num 4294967296 qs q.natAbs ∧ Res w' w.heap.size 61 A1 c1 (u32s qs) ∧ Below w.heap.size w w'
def euQ (z y : Int) : Int := z / y
def euR (z y : Int) : Int := if y = 0 then 0 else z % y
def euE (y : Int) : Int := if y = 0 then 5 else 0
theorem up_eq (m k : Nat) : upQ m k = if true = true ∧ m % k ≠ 0 then m / k + 1 else m / k := by unfold upQ; by_cases h : m % k = 0 <;> simp [h]
theorem upr_eq (m k : Nat) : upR m k = if true = true ∧ m % k ≠ 0 then k - m % k else m % k := by unfold upR; by_cases h : m % k = 0 <;> simp [h]
section
variable {w : World} {g g2 : Bool} {A A2 : Option Addr} {c c2 K J : Nat} {xs ys : List Nat} {z y : Int}
theorem divide_e (h : Zh w g A c xs z K) (h2 : Zh w g2 A2 c2 ys y J) (hK : K ≤ 67108864) (hJ : J ≤ 67108864) :
    Calls Tryz.prog 59 #[.agg #[.bool g, .slice A xs.length c], .agg #[.bool g2, .slice A2 ys.length c2], .int .i64 1] w fun e w' => ZQ w w' (euQ z y) (euR z y) (euE y) e := by
  by_cases hy : y = 0
  · subst hy
    refine (divide_nought 1 h h2 hK hJ).mono ?_
    rintro e w' ⟨rfl, hb⟩
    have e1 : euQ z 0 = 0 := Int.ediv_zero z
    rw [e1]
    exact ⟨[], [], none, 0, none, 0, rfl, Num.zero_ _, Num.zero_ _, Res.none_, Res.none_, hb⟩
  · have e2 := ediv_ival g g2 z.natAbs y.natAbs (by omega)
    rw [h.sg, h2.sg] at e2
    have eE : euE y = 0 := if_neg hy
    have eR : euR z y = z % y := if_neg hy
    rw [eE, eR, show euQ z y = z / y from rfl, e2.1, e2.2]
    cases g <;> cases g2
    · refine (divide_1ff h h2 hy hK hJ).mono fun e w' h9 => ?_
      simpa [ZQ, ZQOut, ivalN] using h9
    · refine (divide_1ft h h2 hy hK hJ).mono fun e w' h9 => ?_
      simpa [ZQ, ZQOut, ivalN] using h9
    · refine (divide_1tf h h2 hy hK hJ).mono fun e w' h9 => ?_
      rw [up_eq, upr_eq] at h9
      exact h9
    · refine (divide_1tt h h2 hy hK hJ).mono fun e w' h9 => ?_
      rw [up_eq, upr_eq] at h9
      exact h9
def trQ (z y : Int) : Int := Int.tdiv z y
def trR (z y : Int) : Int := if y = 0 then 0 else Int.tmod z y
theorem divide_t (h : Zh w g A c xs z K) (h2 : Zh w g2 A2 c2 ys y J) (hK : K ≤ 67108864) (hJ : J ≤ 67108864) :
    Calls Tryz.prog 59 #[.agg #[.bool g, .slice A xs.length c], .agg #[.bool g2, .slice A2 ys.length c2], .int .i64 0] w fun e w' => ZQ w w' (trQ z y) (trR z y) (euE y) e := by
  by_cases hy : y = 0
  · subst hy
    refine (divide_nought 0 h h2 hK hJ).mono ?_
    rintro e w' ⟨rfl, hb⟩
    have e1 : trQ z 0 = 0 := Int.tdiv_zero z
    rw [e1]
    exact ⟨[], [], none, 0, none, 0, rfl, Num.zero_ _, Num.zero_ _, Res.none_, Res.none_, hb⟩
  · have e1 := tdiv_ival g g2 z.natAbs y.natAbs
    have e2 := tmod_ival g g2 z.natAbs y.natAbs
    rw [h.sg, h2.sg] at e1 e2
    have eE : euE y = 0 := if_neg hy
    have eR : trR z y = Int.tmod z y := if_neg hy
    rw [eE, eR, show trQ z y = Int.tdiv z y from rfl, e1, e2]
    cases g <;> cases g2
    · exact divide_0ff h h2 hy hK hJ
    · exact divide_0ft h h2 hy hK hJ
    · exact divide_0tf h h2 hy hK hJ
    · exact divide_0tt h h2 hy hK hJ
end
/-- A function that answers two integers that lie in cells of its own, and an error's number. -/
theorem zq_ret {fn : Func} {a : Act} {w W : World} {p q u : Tmp} {g g2 : Nat} {x y x2 y2 : Value} {Q R er : Int} {qs rs : List Nat} {A1 A3 : Option Addr} {c1 c3 : Nat} (k : Below w.heap.size w W) (b : Blk W g 28 [x, y]) (b2 : Blk W g2 28 [x2, y2]) (hne : g ≠ g2) (hg : w.heap.size ≤ g) (hg2 : w.heap.size ≤ g2)
    (hq : Num 4294967296 qs Q.natAbs) (hr : Num 4294967296 rs R.natAbs) (rq : Res W w.heap.size 61 A1 c1 (u32s qs)) (rr : Res W w.heap.size 61 A3 c3 (u32s rs)) (hres0 : fn.results = #[.cell p 28, .cell q 28, .tmp u]) (hp : a.tmps.getD p undef = .pointer (some ⟨g, 0, none⟩)) (hp2 : a.tmps.getD q undef = .pointer (some ⟨g2, 0, none⟩)) (hu : a.tmps.getD u undef = .int .i64 er) (hd : a.defers = []) :
    bodyPost Tryz.prog fn (fun e w' => ZQ w w' Q R er e) .ret a ((((W.setCell ⟨g, 0, none⟩ (.bool (isNeg Q))).setCell ⟨g, 1, none⟩ (.slice A1 qs.length c1)).setCell ⟨g2, 0, none⟩ (.bool (isNeg R))).setCell ⟨g2, 1, none⟩ (.slice A3 rs.length c3)) := by
  have e4 : Blk ((W.setCell ⟨g, 0, none⟩ (.bool (isNeg Q))).setCell ⟨g, 1, none⟩ (.slice A1 qs.length c1)) g2 28 [x2, y2] := (b2.far (p := ⟨g, 0, none⟩) (fun e => hne e.symm) _).far (p := ⟨g, 1, none⟩) (fun e => hne e.symm) _
  exact bodyPost_ret (results_zzs hres0 hp hp2 (((blk_pair b _ _).far (p := ⟨g2, 0, none⟩) hne _).far (p := ⟨g2, 1, none⟩) hne _) (blk_pair e4 _ _)) hd ⟨qs, rs, A1, c1, A3, c3, by rw [hu], hq, hr, res_var2 (res_var2 rq b _ _) e4 _ _, res_var2 (res_var2 rr b _ _) e4 _ _, bsc (bsc (bsc (bsc k hg _) hg _) hg2 _) hg2 _⟩
/-- The same with one integer. -/
theorem ze_ret {fn : Func} {a : Act} {w W : World} {p u : Tmp} {g : Nat} {x y : Value} {b : Bool} {Q er : Int} {qs : List Nat} {A1 : Option Addr} {c1 : Nat} (k : Below w.heap.size w W) (hb : Blk W g 28 [x, y]) (hg : w.heap.size ≤ g)
    (hq : Num 4294967296 qs Q.natAbs) (rq : Res W w.heap.size 61 A1 c1 (u32s qs)) (hbq : b = isNeg Q) (hres0 : fn.results = #[.cell p 28, .tmp u]) (hp : a.tmps.getD p undef = .pointer (some ⟨g, 0, none⟩)) (hu : a.tmps.getD u undef = .int .i64 er) (hd : a.defers = []) :
    bodyPost Tryz.prog fn (fun e w' => ZE w w' Q er e) .ret a ((W.setCell ⟨g, 0, none⟩ (.bool b)).setCell ⟨g, 1, none⟩ (.slice A1 qs.length c1)) := by
  subst hbq
  exact bodyPost_ret (results_zs hres0 hp (blk_pair hb _ _)) hd ⟨qs, A1, c1, by rw [hu], hq, res_var2 rq hb _ _, bsc (bsc k hg _) hg _⟩
section
variable {w : World} {g g2 : Bool} {A A2 : Option Addr} {c c2 K J : Nat} {xs ys : List Nat} {z y : Int}

set_option maxHeartbeats 1600000 in
theorem Zh.euclid (h : Zh w g A c xs z K) (h2 : Zh w g2 A2 c2 ys y J) (hK : K ≤ 67108864) (hJ : J ≤ 67108864) :
    Calls Tryz.prog 29 #[.agg #[.bool g, .slice A xs.length c], .agg #[.bool g2, .slice A2 ys.length c2]] w fun e w' => ZQ w w' (euQ z y) (euR z y) (euE y) e := by
  have D1 : Hid (∀ W (_ : Below w.heap.size w W), Calls Tryz.prog 59 #[.agg #[.bool g, .slice A xs.length c], .agg #[.bool g2, .slice A2 ys.length c2], .int .i64 1] W fun e w' => ZQ W w' (euQ z y) (euR z y) (euE y) e) := fun W hW => divide_e (h.next hW) (h2.next hW) hK hJ
  clear h h2
  obtain ⟨b0, b1, b2, b3⟩ := blk_four w (.bool g) (.slice A xs.length c) (.bool g2) (.slice A2 ys.length c2) (.bool false) (.slice none 0 0) (.bool false) (.slice none 0 0)
  have k0 := bel_four w (.cells #[.bool g, .slice A xs.length c] 28) (.cells #[.bool g2, .slice A2 ys.length c2] 28) (.cells #[.bool false, .slice none 0 0] 28) (.cells #[.bool false, .slice none 0 0] 28)
  go_enter Tryz.func29, Tryz.ntmps29
  go_wp2_with fail
  refine (D1.out _ k0).mono ?_
  rintro e w1 ⟨qs, rs, A1, c1, A3, c3, rfl, hq, hr, rq, rr, hb1⟩
  have hsz := k0.size
  have k1 := bst k0 hb1 (Nat.le_refl _)
  replace b2 := b2.below hb1 b2.lt
  replace b3 := b3.below hb1 b3.lt
  obtain ⟨p0, p1, p2, p3⟩ := b2.two
  obtain ⟨q0, q1, q2, q3⟩ := b3.two
  go_wp2_with fail
  exact zq_ret k1 b2 b3 (by omega) (by omega) (by omega) hq hr (rq.mono hsz) (rr.mono hsz) rfl rfl rfl rfl rfl

set_option maxHeartbeats 1600000 in
theorem Zh.trunc (h : Zh w g A c xs z K) (h2 : Zh w g2 A2 c2 ys y J) (hK : K ≤ 67108864) (hJ : J ≤ 67108864) :
    Calls Tryz.prog 30 #[.agg #[.bool g, .slice A xs.length c], .agg #[.bool g2, .slice A2 ys.length c2]] w fun e w' => ZQ w w' (trQ z y) (trR z y) (euE y) e := by
  have D1 : Hid (∀ W (_ : Below w.heap.size w W), Calls Tryz.prog 59 #[.agg #[.bool g, .slice A xs.length c], .agg #[.bool g2, .slice A2 ys.length c2], .int .i64 0] W fun e w' => ZQ W w' (trQ z y) (trR z y) (euE y) e) := fun W hW => divide_t (h.next hW) (h2.next hW) hK hJ
  clear h h2
  obtain ⟨b0, b1, b2, b3⟩ := blk_four w (.bool g) (.slice A xs.length c) (.bool g2) (.slice A2 ys.length c2) (.bool false) (.slice none 0 0) (.bool false) (.slice none 0 0)
  have k0 := bel_four w (.cells #[.bool g, .slice A xs.length c] 28) (.cells #[.bool g2, .slice A2 ys.length c2] 28) (.cells #[.bool false, .slice none 0 0] 28) (.cells #[.bool false, .slice none 0 0] 28)
  go_enter Tryz.func30, Tryz.ntmps30
  go_wp2_with fail
  refine (D1.out _ k0).mono ?_
  rintro e w1 ⟨qs, rs, A1, c1, A3, c3, rfl, hq, hr, rq, rr, hb1⟩
  have hsz := k0.size
  have k1 := bst k0 hb1 (Nat.le_refl _)
  replace b2 := b2.below hb1 b2.lt
  replace b3 := b3.below hb1 b3.lt
  obtain ⟨p0, p1, p2, p3⟩ := b2.two
  obtain ⟨q0, q1, q2, q3⟩ := b3.two
  go_wp2_with fail
  exact zq_ret k1 b2 b3 (by omega) (by omega) (by omega) hq hr (rq.mono hsz) (rr.mono hsz) rfl rfl rfl rfl rfl

/-- The error of an exact division. -/
def exE (z y : Int) : Int := if y = 0 then 5 else if Int.tmod z y = 0 then 0 else 30
def exQ (z y : Int) : Int := if y = 0 then 0 else if Int.tmod z y = 0 then Int.tdiv z y else 0
set_option maxHeartbeats 3200000 in
theorem Zh.exact (h : Zh w g A c xs z K) (h2 : Zh w g2 A2 c2 ys y J) (hK : K ≤ 67108864) (hJ : J ≤ 67108864) :
    Calls Tryz.prog 32 #[.agg #[.bool g, .slice A xs.length c], .agg #[.bool g2, .slice A2 ys.length c2]] w fun e w' => ZE w w' (exQ z y) (exE z y) e := by
  have D1 : Hid (∀ W (_ : Below w.heap.size w W), Calls Tryz.prog 30 #[.agg #[.bool g, .slice A xs.length c], .agg #[.bool g2, .slice A2 ys.length c2]] W fun e w' => ZQ W w' (trQ z y) (trR z y) (euE y) e) := fun W hW => (h.next hW).trunc (h2.next hW) hK hJ
  obtain ⟨b0, b1, b2⟩ := blk_three w (.bool g) (.slice A xs.length c) (.bool g2) (.slice A2 ys.length c2) (.bool false) (.slice none 0 0)
  have k0 := bel_three w (.cells #[.bool g, .slice A xs.length c] 28) (.cells #[.bool g2, .slice A2 ys.length c2] 28) (.cells #[.bool false, .slice none 0 0] 28)
  have hyl := h2.hv.lt
  have hzl : (Int.tmod z y).natAbs = z.natAbs % y.natAbs := by
    have e2 := tmod_ival g g2 z.natAbs y.natAbs
    rw [h.sg, h2.sg] at e2
    rw [e2, abs_ival]
  clear h h2
  by_cases hy : y = 0
  · have eE : euE y = 5 := if_pos hy
    rw [eE] at D1
    have e1 : exE z y = 5 := if_pos hy
    have e2 : exQ z y = 0 := if_pos hy
    rw [e1, e2]
    clear hy eE e1 e2 hyl hzl
    go_enter Tryz.func32, Tryz.ntmps32
    go_wp2_with fail
    refine (D1.out _ k0).mono ?_
    rintro e w1 ⟨qs, rs, A1, c1, A3, c3, rfl, hq, hr, rq, rr, hb1⟩
    have k1 := bst k0 hb1 (Nat.le_refl _)
    replace b2 := b2.below hb1 b2.lt
    have hz : w.heap.size + 1 + 1 < w1.heap.size := b2.lt
    obtain ⟨p0, p1, p2, p3⟩ := b2.two
    obtain ⟨p4, p5, p6, p7⟩ := ((b2.heapAlloc (.cells #[.bool (isNeg (trQ z y)), .slice A1 qs.length c1] 28)).heapAlloc (.cells #[.bool (isNeg (trR z y)), .slice A3 rs.length c3] 28)).two
    go_wp2_with fail
    exact ze_ret (qs := []) (bal (bal k1 (Nat.le_refl _) _) (Nat.le_refl _) _) ((b2.heapAlloc _).heapAlloc _) (by omega) (Num.zero_ _) Res.none_ rfl rfl rfl rfl rfl
  · have eE : euE y = 0 := if_neg hy
    have eR : trR z y = Int.tmod z y := if_neg hy
    rw [eE, eR] at D1
    have hRl : (Int.tmod z y).natAbs < 4294967296 ^ J := by
      have := Nat.mod_lt z.natAbs (show 0 < y.natAbs by omega)
      omega
    obtain ⟨R, hR⟩ : ∃ R, R = Int.tmod z y := ⟨_, rfl⟩
    rw [← hR] at D1 hRl
    by_cases h0 : R = 0
    · have e1 : exE z y = 0 := by unfold exE; rw [if_neg hy, if_pos (by rw [← hR]; exact h0)]
      have e2 : exQ z y = trQ z y := by unfold exQ; rw [if_neg hy, if_pos (by rw [← hR]; exact h0)]; rfl
      rw [e1, e2]
      have d0 : decide (R = 0) = true := decide_eq_true h0
      have D0 := Lib.hid d0
      clear hy eE eR e1 e2 hR h0 d0 hyl hzl
      go_enter Tryz.func32, Tryz.ntmps32
      go_wp2_with fail
      refine (D1.out _ k0).mono ?_
      rintro e w1 ⟨qs, rs, A1, c1, A3, c3, rfl, hq, hr, rq, rr, hb1⟩
      have hsz := k0.size
      have k1 := bst k0 hb1 (Nat.le_refl _)
      replace b2 := b2.below hb1 b2.lt
      have hz := b2.lt
      have Z1 : Hid (∀ W (_ : Below w1.heap.size w1 W), Calls Tryz.prog 42 #[.agg #[.bool (isNeg R), .slice A3 rs.length c3]] W fun e w' => e = .returned (.bool true) ∧ Below W.heap.size W w') := fun W hW => by
        have := (((Zn.shrink hr rr hRl).next hW).zh).isZero hJ
        rwa [D0.out] at this
      have Hq := Lib.hid hq
      have Rq := Lib.hid rq
      clear hq hr rq rr
      go_wp2_with fail
      refine (Z1.out _ (bal (bal (Below.refl _ _) (Nat.le_refl _) _) (Nat.le_refl _) _)).mono ?_
      rintro e w2 ⟨rfl, hb2⟩
      have c1' : Blk w2 w1.heap.size 28 [.bool (isNeg (trQ z y)), .slice A1 qs.length c1] := ((Blk.new_ (w := w1) (t := 28) (cs := #[.bool (isNeg (trQ z y)), .slice A1 qs.length c1]) (vs := [.bool (isNeg (trQ z y)), .slice A1 qs.length c1]) rfl).heapAlloc _).below hb2 (by simp <;> omega)
      have j2 : Below w1.heap.size w1 w2 := bst (bal (bal (Below.refl _ _) (Nat.le_refl _) _) (Nat.le_refl _) _) hb2 (Nat.le_refl _)
      have b9 := b2.below j2 b2.lt
      obtain ⟨p0, p1, p2, p3⟩ := b9.two
      obtain ⟨q0, q1, q2, q3⟩ := c1'.two
      go_wp2_with fail
      exact ze_ret (bst k1 j2 (Nat.le_refl _)) b9 (by omega) Hq.out ((Rq.out.below j2 (Nat.le_refl _)).mono hsz) rfl rfl rfl rfl rfl
    · have e1 : exE z y = 30 := by unfold exE; rw [if_neg hy, if_neg (by rw [← hR]; exact h0)]
      have e2 : exQ z y = 0 := by unfold exQ; rw [if_neg hy, if_neg (by rw [← hR]; exact h0)]
      rw [e1, e2]
      have d0 : decide (R = 0) = false := decide_eq_false h0
      have D0 := Lib.hid d0
      clear hy eE eR e1 e2 hR h0 d0 hyl hzl
      go_enter Tryz.func32, Tryz.ntmps32
      go_wp2_with fail
      refine (D1.out _ k0).mono ?_
      rintro e w1 ⟨qs, rs, A1, c1, A3, c3, rfl, hq, hr, rq, rr, hb1⟩
      have k1 := bst k0 hb1 (Nat.le_refl _)
      replace b2 := b2.below hb1 b2.lt
      have hz := b2.lt
      have Z1 : Hid (∀ W (_ : Below w1.heap.size w1 W), Calls Tryz.prog 42 #[.agg #[.bool (isNeg R), .slice A3 rs.length c3]] W fun e w' => e = .returned (.bool false) ∧ Below W.heap.size W w') := fun W hW => by
        have := (((Zn.shrink hr rr hRl).next hW).zh).isZero hJ
        rwa [D0.out] at this
      clear hq hr rq rr
      go_wp2_with fail
      refine (Z1.out _ (bal (bal (Below.refl _ _) (Nat.le_refl _) _) (Nat.le_refl _) _)).mono ?_
      rintro e w2 ⟨rfl, hb2⟩
      have j2 : Below w1.heap.size w1 w2 := bst (bal (bal (Below.refl _ _) (Nat.le_refl _) _) (Nat.le_refl _) _) hb2 (Nat.le_refl _)
      have b9 := b2.below j2 b2.lt
      obtain ⟨p0, p1, p2, p3⟩ := b9.two
      go_wp2_with fail
      exact ze_ret (qs := []) (bst k1 j2 (Nat.le_refl _)) b9 (by omega) (Num.zero_ _) Res.none_ rfl rfl rfl rfl rfl
end
end
end Go.Proofs.YtanlejlmckdeiaaGreatDoor
