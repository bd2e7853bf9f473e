/- The places of the bits that are 1: plain mathematics. The contracts of the reference's Of and of nat.Uint64. The contracts of the reference's operations on sizes that ar. The contract of the reference's half. -/
import Derived.Test.YtbcphifjcaobfaaGreatDoorPkRp6
import Derived.Lib.TrailingZeros
import Derived.Test.YtbcphifjcaobfaaGreatDoorPkRp5
import Derived.Shelf.Spec.TrailingZeros
import Derived.Test.YtbcphifjcaobfaaGreatDoorPkRp16
import Derived.Test.YtbcphifjcaobfaaGreatDoorPkRp20
import Derived.Test.YtbcphifjcaobfaaGreatDoorPkRp7
namespace Go.Proofs.YtbcphifjcaobfaaGreatDoor
section
open Go.RowKit
def bitAt (xs : List Nat) (i : Nat) : Nat := at0 xs (i / 32) / 2 ^ (i % 32) % 2
def pop (n : Nat) : Nat := if h : n = 0 then 0 else n % 2 + pop (n / 2)
termination_by n
decreasing_by omega
def pops : List Nat → Nat
 | [] => 0
 | x :: xs => pop x + pops xs
theorem pop_zero : pop 0 = 0 := by rw [pop]; simp
theorem pop_rec (n : Nat) : pop n = n % 2 + pop (n / 2) := by
 by_cases h : n = 0
 ·subst h; simp [pop_zero]
 ·conv => lhs; rw [pop]
  simp [h]
theorem pop_double (n : Nat) : pop (2 * n) = pop n := by
 rw [pop_rec, show 2 * n % 2 = 0 from by omega, show 2 * n / 2 = n from by omega]; omega
theorem pop_odd (n : Nat) : pop (2 * n + 1) = pop n + 1 := by
 rw [pop_rec, show (2 * n + 1) % 2 = 1 from by omega, show (2 * n + 1) / 2 = n from by omega]; omega
theorem pop_shift (k n : Nat) : pop (2 ^ k * n) = pop n := by
 induction k with
 | zero => simp
 | succ k ih => rw [Nat.pow_succ, Nat.mul_comm (2 ^ k) 2, Nat.mul_assoc, pop_double, ih]
theorem pops_append (xs ys : List Nat) : pops (xs ++ ys) = pops xs + pops ys := by
 induction xs with
 | nil => simp [pops]
 | cons x xs ih => simp only [List.cons_append, pops, ih]; omega
theorem pops_take_succ (xs : List Nat) (k : Nat) (h : k < xs.length) : pops (xs.take (k + 1)) = pops (xs.take k) + pop xs[k] := by
 rw [List.take_succ_eq_append_getElem h, pops_append]
 simp [pops]
theorem bitAt_in {xs : List Nat} {k t : Nat} (h : k < xs.length) (ht : t < 32) : bitAt xs (32 * k + t) = xs[k] / 2 ^ t % 2 := by
 unfold bitAt
 rw [show (32 * k + t) / 32 = k from by omega, show (32 * k + t) % 32 = t from by omega, at0_in h]
theorem bit_one {x t : Nat} (h : x.testBit t = true) : x / 2 ^ t % 2 = 1 := by
 rw [Nat.testBit_eq_decide_div_mod_eq] at h; exact of_decide_eq_true h
theorem bit_zero {x t : Nat} (h : x.testBit t = false) : x / 2 ^ t % 2 = 0 := by
 rw [Nat.testBit_eq_decide_div_mod_eq] at h
 have := of_decide_eq_false h
 omega
structure Low (y t z : Nat) : Prop where
 lt : t < 32
 one : y.testBit t = true
 below : ∀ j, j < t → y.testBit j = false
 rest : ∀ j, z.testBit j = true → y.testBit j = true ∧ t < j
 pops : pop z + 1 = pop y
 less : z < y
theorem low_of {y : Nat} (h0 : y ≠ 0) (h : y < 4294967296) : Low y (Lib.ctz 32 y) (y &&& (y - 1)) := by
 obtain ⟨m, hm, hk⟩ := Lib.ctzFrom_spec 32 y (by omega) h
 have e0 : Lib.ctz 32 y = Lib.ctzFrom 32 y := by unfold Lib.ctz; rw [if_neg h0]
 rw [e0]
 obtain ⟨k, hke⟩ : ∃ k, k = Lib.ctzFrom 32 y := ⟨_, rfl⟩
 rw [← hke] at hm hk ⊢
 have hp := Nat.two_pow_pos k
 have e1 : y - 1 = 2 ^ k * (2 * m) + (2 ^ k - 1) := by rw [hm, Nat.mul_add]; omega
 have e2 : y = 2 ^ k * (2 * m + 1) + 0 := by rw [← hm]; rfl
 have b1 : ∀ j, y.testBit j = if j < k then false else (2 * m + 1).testBit (j - k) := fun j => by
  rw [e2, Nat.testBit_two_pow_mul_add _ hp]; simp
 have b2 : ∀ j, (y - 1).testBit j = if j < k then (2 ^ k - 1).testBit j else (2 * m).testBit (j - k) := fun j => by
  rw [e1, Nat.testBit_two_pow_mul_add _ (by omega)]
 have b3 : ∀ j, (2 ^ k * (2 * m)).testBit j = if j < k then false else (2 * m).testBit (j - k) := fun j => by
  have := Nat.testBit_two_pow_mul_add (2 * m) hp j
  rw [Nat.add_zero] at this
  rw [this]; simp
 have o1 : ∀ t, ((2 * m + 1).testBit t && (2 * m).testBit t) = (2 * m).testBit t := fun t => by
  cases t with
  | zero => simp
  | succ t => rw [Nat.testBit_succ, Nat.testBit_succ, show (2 * m + 1) / 2 = m from by omega, show 2 * m / 2 = m from by omega]; simp
 have ez : y &&& (y - 1) = 2 ^ k * (2 * m) := by
  refine Nat.eq_of_testBit_eq fun j => ?_
  rw [Nat.testBit_and, b1, b2, b3]
  by_cases hj : j < k
  ·simp [hj]
  ·simp only [hj, if_false]; exact o1 _
 rw [ez]
 refine ⟨hk, ?_, ?_, ?_, ?_, ?_⟩
 ·rw [b1]; simp
 ·intro j hj; rw [b1]; simp [hj]
 ·intro j hj
  rw [b3] at hj
  by_cases hjk : j < k
  ·simp [hjk] at hj
  ·simp only [hjk, if_false] at hj
   rw [b1]; simp only [hjk, if_false]
   obtain ⟨t, ht⟩ : ∃ t, t = j - k := ⟨_, rfl⟩
   rw [← ht] at hj ⊢
   have h1 := o1 t
   rw [hj] at h1
   refine ⟨by simpa using h1, ?_⟩
   rcases Nat.eq_zero_or_pos t with h2 | h2
   ·subst h2; simp at hj
   ·omega
 ·conv => rhs; rw [hm]
  rw [pop_shift, pop_shift, pop_double, pop_odd]
 ·conv => rhs; rw [hm]
  rw [Nat.mul_add]; omega
abbrev Pl := { x : Nat // x < 1152921504606846976 }
def lastI (pre : List Pl) : Int := match pre.getLast? with
 | none => -1
 | some x => (x.1 : Int)
theorem lastI_nil : lastI [] = -1 := rfl
theorem lastI_snoc (pre : List Pl) (x : Pl) : lastI (pre ++ [x]) = (x.1 : Int) := by simp [lastI]
def Good (xs : List Nat) (pre : List Pl) : Prop := ∀ (p : List Pl) (x : Pl), (p ++ [x]) <+: pre → lastI p < (x.1 : Int) ∧ bitAt xs x.1 = 1
theorem Good.nil_ (xs : List Nat) : Good xs [] := fun p x h => by
 have := List.prefix_nil.1 h
 simp at this
theorem Good.step {xs : List Nat} {pre : List Pl} (h : Good xs pre) (x : Pl) (h1 : lastI pre < (x.1 : Int)) (h2 : bitAt xs x.1 = 1) : Good xs (pre ++ [x]) := fun p y hp => by
 rcases List.prefix_concat_iff.1 hp with e | e
 ·obtain ⟨rfl, e2⟩ := List.append_inj' e rfl
  obtain rfl : y = x := by simpa using e2
  exact ⟨h1, h2⟩
 ·exact h p y e
theorem Good.last {xs : List Nat} {pre : List Pl} {x : Pl} (h : Good xs (pre ++ [x])) : lastI pre < (x.1 : Int) ∧ bitAt xs x.1 = 1 := h pre x (List.prefix_refl _)
structure Limbs (xs : List Nat) (k : Nat) (pre : List Pl) : Prop where
 le : k ≤ xs.length
 good : Good xs pre
 count : pre.length = pops (xs.take k)
 last : lastI pre < 32 * (k : Int)
structure Inner (xs : List Nat) (k y : Nat) (pre : List Pl) : Prop where
 lt : k < xs.length
 yb : y < 4294967296
 good : Good xs pre
 count : pre.length + pop y = pops (xs.take (k + 1))
 last : lastI pre < 32 * ((k : Int) + 1)
 bits : ∀ j, y.testBit j = true → at0 xs k / 2 ^ j % 2 = 1 ∧ lastI pre < 32 * (k : Int) + (j : Int)
theorem Limbs.start (xs : List Nat) : Limbs xs 0 [] := ⟨by omega, Good.nil_ _, by simp [pops], by rw [lastI_nil]; omega⟩
theorem Limbs.enter {xs : List Nat} {k : Nat} {pre : List Pl} (h : Limbs xs k pre) (hd : Dig 4294967296 xs) (hk : k < xs.length) : Inner xs k xs[k] pre := by
 have h1 := h.last
 refine ⟨hk, hd.at_ k hk, h.good, by rw [pops_take_succ _ _ hk, h.count], by omega, fun j hj => ⟨?_, by omega⟩⟩
 rw [at0_in hk]; exact bit_one hj
theorem Inner.ok {xs : List Nat} {k y t z : Nat} {pre : List Pl} (h : Inner xs k y pre) (hl : Low y t z) : lastI pre < 32 * (k : Int) + (t : Int) ∧ bitAt xs (32 * k + t) = 1 := by
 have h1 := h.bits t hl.one
 refine ⟨h1.2, ?_⟩
 rw [bitAt_in h.lt hl.lt, ← at0_in h.lt]
 exact h1.1
theorem Inner.step {xs : List Nat} {k y t z : Nat} {pre : List Pl} (h : Inner xs k y pre) (hl : Low y t z) (x : Pl) (hx : x.1 = 32 * k + t) : Inner xs k z (pre ++ [x]) := by
 have h1 := h.ok hl
 have h2 := hl.less
 have h3 := h.yb
 have h4 := hl.lt
 have h5 := hl.pops
 refine ⟨h.lt, by omega, h.good.step x (by rw [hx]; omega) (by rw [hx]; exact h1.2), ?_, ?_, ?_⟩
 ·rw [List.length_append, List.length_singleton]; have := h.count; omega
 ·rw [lastI_snoc, hx]; omega
 ·intro j hj
  obtain ⟨a, b⟩ := hl.rest j hj
  refine ⟨(h.bits j a).1, ?_⟩
  rw [lastI_snoc, hx]; omega
def TrailIs (xs : List Nat) (t : Nat) : Prop := (t < 32 * xs.length ∧ bitAt xs t = 1 ∧ ∀ j, j < t → bitAt xs j ≠ 1) ∨ (t = 0 ∧ ∀ j, j < 32 * xs.length → bitAt xs j ≠ 1)
theorem trail_at {xs : List Nat} {k t z : Nat} (hk : k < xs.length) (h0 : ∀ j, j < k → at0 xs j = 0) (hl : Low xs[k] t z) : TrailIs xs (32 * k + t) := by
 have h1 := hl.lt
 refine Or.inl ⟨by omega, by rw [bitAt_in hk h1]; exact bit_one hl.one, fun j hj => ?_⟩
 rcases Nat.lt_or_ge j (32 * k) with h | h
 ·unfold bitAt
  rw [h0 (j / 32) (by omega)]; simp
 ·obtain ⟨s, rfl⟩ := Nat.exists_eq_add_of_le h
  rw [bitAt_in hk (by omega), bit_zero (hl.below s (by omega))]
  omega
theorem trail_none {xs : List Nat} (h0 : ∀ j, j < xs.length → at0 xs j = 0) : TrailIs xs 0 := Or.inr ⟨rfl, fun j hj => by
 unfold bitAt
 rw [h0 (j / 32) (by omega)]; simp⟩
end
section
open Go.RowKit
set_option maxHeartbeats 400000 in
theorem rof_any (n : Nat) (h : n < 18446744073709551616) (w : World) :
  Calls Tryz.prog 112 #[.int .u64 (n : Int)] w fun e w' => ∃ zs A' c', e = .returned (.slice A' zs.length c') ∧ Num 4294967296 zs n ∧ Res w' w.heap.size 50 A' c' (u32s zs) ∧ Below w.heap.size w w' := by
 have e1 : IntKind.u32.wrap ((n : Int) % 4294967296) = ((n % 4294967296 : Nat) : Int) := by rw [Go.Proofs.wrap_u32']; omega
 have e2 : IntKind.u32.wrap ((n : Int) / 4294967296) = ((n / 4294967296 : Nat) : Int) := by rw [Go.Proofs.wrap_u32']; omega
 obtain ⟨a, ha⟩ : ∃ a, a = n % 4294967296 := ⟨_, rfl⟩
 obtain ⟨b, hb⟩ : ∃ b, b = n / 4294967296 := ⟨_, rfl⟩
 rw [← ha] at e1
 rw [← hb] at e2
 have hab : Hid (n = a + 4294967296 * b ∧ a < 4294967296 ∧ b < 4294967296) := by constructor <;> omega
 clear ha hb
 go_enter Tryz.func112, Tryz.ntmps112
 go_wp2_with (first | (simp only [e1, e2]) | (simp only [e1]) | (simp only [e2]))
 have hblk : Blk (w.alloc (.cells #[.int .u32 (a : Int), .int .u32 (b : Int)] 50)) w.heap.size 50 (u32s [a, b]) := Blk.new_ rfl
 obtain ⟨h1, h2, h3⟩ := hab.out
 have hd : Dig 4294967296 [a, b] := Dig.cons_ h2 (Dig.cons_ h3 (Dig.nil_ _))
 refine (rnorm_any (some ⟨w.heap.size, 0, none⟩) 2 [a, b] _ (w.heap.size + 1) ?_ ?_ ?_).mono ?_
 ·exact Rd.of_blk hblk (by omega) 0 (fun k v hv => by rw [Nat.zero_add]; exact hv)
 ·simp
 ·simp
 rintro e w' ⟨A', c', rfl, hres, hb⟩
 go_wp2
 go_ret
 have hz : (w.alloc (.cells #[.int .u32 (a : Int), .int .u32 (b : Int)] 50)).heap.size = w.heap.size + 1 := by simp
 rw [hz] at hres hb
 exact ⟨_, A', c', rfl, by rw [h1]; simpa [val] using Num.of_trim hd, hres.mono (by omega), (br9.alloc nl9 _).trans (hb.mono (by omega))⟩
end
section
open Go.RowKit
section
variable {w w' : World} {A A2 : Option Addr} {c c2 n k K J : Nat} {xs ys : List Nat}
theorem Hv.rnorm (h : Hv w A c xs n K) (hK : K ≤ 67108864) : Calls Tryz.prog 90 #[.slice A xs.length c] w fun e w' => NOut w w' n e := by
 have hl1 := h.len
 refine (rnorm_any A c xs w w.heap.size h.rd nl9 (by omega)).mono ?_
 rintro e w' ⟨A', c', rfl, hr, hb⟩
 exact ⟨_, A', c', rfl, by rw [← h.val_]; exact Num.of_trim h.dig, hr, hb⟩
theorem Hv.radd (h : Hv w A c xs n K) (h2 : Hv w A2 c2 ys k J) (hK : K ≤ 67108864) (hJ : J ≤ 67108864) : Calls Tryz.prog 119 #[.slice A xs.length c, .slice A2 ys.length c2] w fun e w' => NOut w w' (n + k) e := by
 have hl1 := h.len
 have hl2 := h2.len
 have h9 := radd_any A A2 c c2 xs ys w w.heap.size h.rd h2.rd nl9 h.dig h2.dig (by omega) (by omega)
 rwa [h.val_, h2.val_] at h9
theorem Hv.rsub (h : Hv w A c xs n K) (h2 : Hv w A2 c2 ys k J) (hK : K ≤ 67108864) (hJ : J ≤ 67108864) (hle : k ≤ n) : Calls Tryz.prog 121 #[.slice A xs.length c, .slice A2 ys.length c2] w fun e w' => NOut w w' (n - k) e := by
 have hl1 := h.len
 have hl2 := h2.len
 have h9 := rsub_any A A2 c c2 xs ys w w.heap.size h.rd h2.rd nl9 h.dig h2.dig (by omega) (by omega) (by rw [h.val_, h2.val_]; exact hle)
 rwa [h.val_, h2.val_] at h9
theorem Hv.rmul (h : Hv w A c xs n K) (h2 : Hv w A2 c2 ys k J) (hK : K ≤ 67108864) (hJ : J ≤ 67108864) : Calls Tryz.prog 122 #[.slice A xs.length c, .slice A2 ys.length c2] w fun e w' => NOut w w' (n * k) e := by
 have hl1 := h.len
 have hl2 := h2.len
 have t1 := trimL_length_le xs
 have t2 := trimL_length_le ys
 have h9 := rmul_any A A2 c c2 xs ys w w.heap.size h.rd h2.rd nl9 h.dig h2.dig (by omega) (by omega) (by omega)
 rwa [h.val_, h2.val_] at h9
theorem Hv.rcmp (h : Hv w A c xs n K) (h2 : Hv w A2 c2 ys k J) (hK : K ≤ 67108864) (hJ : J ≤ 67108864) : Calls Tryz.prog 120 #[.slice A xs.length c, .slice A2 ys.length c2] w fun e w' => e = .returned (.int .i64 (cmpN n k)) ∧ w = w' := by
 have hl1 := h.len
 have hl2 := h2.len
 have h9 := rcmp_any A A2 c c2 xs ys w w.heap.size h.rd h2.rd h.dig h2.dig (by omega) (by omega)
 rwa [h.val_, h2.val_] at h9
def QOut (w w' : World) (n k : Nat) (e : Ending) : Prop := ∃ qs rs A1 c1 A3 c3, e = .returned (.tuple #[.slice A1 qs.length c1, .slice A3 rs.length c3]) ∧ Num 4294967296 qs (n / k) ∧ Num 4294967296 rs (n % k) ∧ Res w' w.heap.size 50 A1 c1 (u32s qs) ∧ Res w' w.heap.size 50 A3 c3 (u32s rs) ∧ Below w.heap.size w w'
theorem Hv.rdiv (h : Hv w A c xs n K) (h2 : Hv w A2 c2 ys k J) (hK : K ≤ 67108864) (hJ : J ≤ 67108864) (hk : 0 < k) : Calls Tryz.prog 114 #[.slice A xs.length c, .slice A2 ys.length c2] w fun e w' => QOut w w' n k e := by
 have hl1 := h.len
 have hl2 := h2.len
 have h9 := rdiv_any A A2 c c2 xs ys w w.heap.size h.rd h2.rd nl9 h.dig h2.dig (by omega) (by omega) (by rw [h2.val_]; exact hk)
 rwa [h.val_, h2.val_] at h9
theorem Hv.rzero (h : Hv w A c xs n K) (hK : K ≤ 67108864) : Calls Tryz.prog 108 #[.slice A xs.length c] w fun e w' => e = .returned (.bool (decide (n = 0))) ∧ w = w' := by
 have hl1 := h.len
 have h9 := zero_any A c xs w w.heap.size h.rd (by omega)
 have e : decide (trimL xs = []) = decide (n = 0) := by
  have := (Num.of_trim h.dig).nil_iff (by omega)
  rw [h.val_] at this
  exact decide_eq_decide.2 this
 rwa [e] at h9
theorem rof_out (n : Nat) (h : n < 18446744073709551616) (w : World) : Calls Tryz.prog 112 #[.int .u64 (n : Int)] w fun e w' => NOut w w' n e := rof_any n h w
end
end
section
open Go.RowKit
def Halved (xs : List Nat) (k : Nat) (zs : List Nat) : Prop :=
 Dig 4294967296 zs ∧ 2 * val 4294967296 zs + at0 xs 0 % 2 = val 4294967296 (xs.take k) + 4294967296 ^ k * (at0 xs k % 2) ∧ ∀ j (h : j < zs.length), k ≤ j → zs[j] = 0
theorem Halved.start (xs : List Nat) (n : Nat) : Halved xs 0 (List.replicate n 0) :=
 ⟨Dig.zeros_ (by omega) _, by simp [val_zeros, val], fun j h _ => by simp⟩
theorem Halved.step {xs zs : List Nat} {k v : Nat} (h : Halved xs k zs) (hz : k < zs.length) (hd : Dig 4294967296 xs) (hv : v = at0 xs k / 2 + at0 xs (k + 1) % 2 * 2147483648) : Halved xs (k + 1) (zs.set k v) := by
 obtain ⟨h1, h2, h3⟩ := h
 have ha := at0_lt hd k
 refine ⟨h1.set_ _ _ (by omega), ?_, fun i hi hki => ?_⟩
 ·have e1 := val_set 4294967296 zs k v hz
  rw [h3 k hz nl9] at e1
  rw [val_take_at0, Nat.pow_succ, Nat.mul_assoc]
  have e2 : 2 * v + at0 xs k % 2 = at0 xs k + 4294967296 * (at0 xs (k + 1) % 2) := by omega
  have e3 : 4294967296 ^ k * (2 * v + at0 xs k % 2) = 4294967296 ^ k * (at0 xs k + 4294967296 * (at0 xs (k + 1) % 2)) := by rw [e2]
  rw [Nat.mul_add, Nat.mul_add, Nat.mul_left_comm] at e3
  omega
 ·rw [List.getElem_set, if_neg (by omega)]
  exact h3 i (by simpa using hi) (by omega)
theorem Halved.last {xs zs : List Nat} (h : Halved xs xs.length zs) : val 4294967296 zs = val 4294967296 xs / 2 := by
 have h2 := h.2.1
 rw [List.take_length, at0_out nl9] at h2
 have : at0 xs 0 % 2 < 2 := Nat.mod_lt _ (by omega)
 omega
set_option maxHeartbeats 800000 in
theorem rhalf_any (A : Option Addr) (c : Nat) (xs : List Nat) (w : World) (B : Nat) (hr : Rd w B A (u32s xs)) (hB : B ≤ w.heap.size) (hd : Dig 4294967296 xs) (hm : xs.length ≤ 70368744170000) :
  Calls Tryz.prog 165 #[.slice A xs.length c] w fun e w' => ∃ zs A' c', e = .returned (.slice A' zs.length c') ∧ Num 4294967296 zs (val 4294967296 xs / 2) ∧ Res w' w.heap.size 50 A' c' (u32s zs) ∧ Below w.heap.size w w' := by
 have hmk := fun W => mk32 xs.length (by omega) W
 go_enter Tryz.func165, Tryz.ntmps165
 go_wp2
 go_loopw [4, 10] (fun _ i wr => ∃ (k : Nat) (zs : List Nat), k ≤ xs.length ∧ i = .int .i64 k ∧ zs.length = xs.length ∧ Blk wr w.heap.size 50 (u32s zs) ∧ Halved xs k zs ∧ Below w.heap.size w wr) (fun _ i _ => xs.length - (intOf i).toNat)
 case atStart => exact ⟨0, List.replicate xs.length 0, by omega, rfl, by simp, Blk.new_ (by simp [u32s]), Halved.start _ _, br9.alloc nl9 _⟩
 case round =>
  obtain ⟨k, zs, hk, rfl, hzl, hblk, hsm, hbel⟩ := hrel
  by_cases hlt : k < xs.length
  ·have hkz : k < zs.length := by omega
   have Hzl := hi9 hzl
   clear hzl
   have hc2 := (hblk.cell k).trans (u32s_at hkz)
   have hf2 := hblk.frozen k
   have ha := at0_lt hd k
   have ha2 := at0_lt hd (k + 1)
   have hrw := hr.below (hbel.mono hB)
   obtain ⟨v, hv⟩ : ∃ v, v = at0 xs k / 2 + at0 xs (k + 1) % 2 * 2147483648 := ⟨_, rfl⟩
   have hst := hsm.step hkz hd hv
   have L1 := hi9 (limb_any A c xs k wr _ hrw hd (by omega) (by omega))
   have L2 : Hid (Calls Tryz.prog 149 #[.slice A xs.length c, .int .i64 ((k : Int) + 1)] wr fun e w' => e = .returned (.int .u64 (at0 xs (k + 1) : Nat)) ∧ wr = w') := by
    have := limb_any A c xs (k + 1) wr _ hrw hd (by omega) (by omega)
    rwa [show ((k + 1 : Nat) : Int) = (k : Int) + 1 from by omega] at this
   obtain ⟨y, hy⟩ : ∃ y, y = at0 xs k := ⟨_, rfl⟩
   obtain ⟨z, hz⟩ : ∃ z, z = at0 xs (k + 1) := ⟨_, rfl⟩
   rw [← hy] at L1 hv ha
   rw [← hz] at L2 hv ha2
   have hvb : v < 4294967296 := by omega
   have E1 : Hid ((y : Int) / 2 + (z : Int) % 2 * 2147483648 = (v : Int)) := by show (y : Int) / 2 + (z : Int) % 2 * 2147483648 = (v : Int); omega
   have Hst := hi9 hst
   clear hy hz hv hst hsm
   go_wp2_with (first
    | simp only [E1.out]
    | (go_at_call_of 149 (Value.slice A xs.length c); first | ((with_reducible refine L1.out.mono ?_); rintro e w' ⟨rfl, rfl⟩) | ((with_reducible refine L2.out.mono ?_); rintro e w' ⟨rfl, rfl⟩)))
   go_roundw
   case rel =>
    refine ⟨k + 1, zs.set k v, by omega, by go_num, by simpa using Hzl.out, ?_, Hst.out, hbel.setCell (p := ⟨w.heap.size, k, none⟩) nl9 _⟩
    have hb2 := hblk.set_ k (Value.int IntKind.u32 (v : Int))
    rw [u32s_set] at hb2
    exact hb2
   case measure => simp [intOf]; omega
  ·obtain rfl : k = xs.length := by omega
   have hrd := (Res.of_blk0 hblk nl9 (by rw [u32s_length]; omega)).rd
   have Hv := hi9 hsm.last
   have Hzl := hi9 hzl
   have hzm : zs.length ≤ 70368744177664 := by omega
   clear hzl
   go_wp2_with (go_at_call 90; rw [← Hzl.out]; refine (rnorm_any _ _ zs wr _ hrd nl9 hzm).mono ?_; rintro e w2 ⟨A', c', rfl, hres, hb⟩)
   go_ret
   refine ⟨trimL zs, A', c', rfl, ?_, hres.mono hbel.size, hbel.trans (hb.mono hbel.size)⟩
   rw [← Hv.out]
   exact Num.of_trim hsm.1
end
end Go.Proofs.YtbcphifjcaobfaaGreatDoor
