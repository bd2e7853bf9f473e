/- Powers of a fraction: the contracts of rat.Pow, of the refer. The contracts of rat.Pow, of the reference's Pow and of one,. -/
import Derived.Test.YtbcphifjcaobfaaGreatDoorPkRp40
import Derived.Test.YtbcphifjcaobfaaGreatDoorPkRp42
namespace Go.Proofs.YtbcphifjcaobfaaGreatDoor
section
open Go.RowKit
instance (a k : Nat) : Decidable (PwS a k) := by unfold PwS; infer_instance
def PwK (a k : Nat) : Prop := PwS a k ∨ (2 ≤ bitsOf a ∧ 67108864 ≤ k * (bitsOf a - 1))
def powV (z : Int) (k : Nat) : Int := if PwS z.natAbs k then z ^ k else 0
def powE (z : Int) (k : Nat) : Int := if PwS z.natAbs k then 0 else 4
def Fit (q : Rat) (k : Nat) : Prop := PwS q.num.natAbs k ∧ PwS q.den k
instance (q : Rat) (k : Nat) : Decidable (Fit q k) := by unfold Fit; infer_instance
def pwN (q : Rat) (k : Nat) : Int := if Fit q k then q.num ^ k else 0
def pwD (q : Rat) (k : Nat) : Int := if Fit q k then (q.den : Int) ^ k else 0
def pwE (q : Rat) (k : Nat) : Int := if Fit q k then 0 else 4
def pwQ (q : Rat) (k : Int) : Rat := if k = -9223372036854775808 then (q * q)⁻¹ else if k < 0 then q⁻¹ else q
def pwX (k : Int) : Nat := if k = -9223372036854775808 then 4611686018427387904 else k.natAbs
def PwL (q : Rat) (k : Int) : Prop := k ≠ -9223372036854775808 → PwK q.num.natAbs k.natAbs ∧ PwK q.den k.natAbs
def longB (b : Nat) (k : Int) : Bool := decide (k ≠ -9223372036854775808 ∧ 1 < b ∧ k.natAbs < 67108864 ∧ 40000 < b * k.natAbs ∧ (b - 1) * k.natAbs < 67108864)
theorem longB_no {a : Nat} {k : Int} (h : longB (bitsOf a) k = false) (hk : k ≠ -9223372036854775808) : PwK a k.natAbs := by
 have h := of_decide_eq_false h
 by_cases h1 : bitsOf a ≤ 1
 ·exact Or.inl (Or.inr (Or.inl h1))
 by_cases h2 : bitsOf a * k.natAbs ≤ 40000
 ·exact Or.inl (Or.inr (Or.inr h2))
 refine Or.inr ⟨by omega, ?_⟩
 by_cases h3 : k.natAbs < 67108864
 ·have h4 : ¬ (bitsOf a - 1) * k.natAbs < 67108864 := fun h4 => h ⟨hk, by omega, h3, by omega, h4⟩
  rw [Nat.mul_comm]; omega
 ·have : k.natAbs * 1 ≤ k.natAbs * (bitsOf a - 1) := Nat.mul_le_mul_left _ (by omega)
  omega
theorem pwl_of {q : Rat} {k : Int} (h1 : longB (bitsOf q.num.natAbs) k = false) (h2 : longB (bitsOf q.den) k = false) : PwL q k := fun hk => ⟨longB_no h1 hk, longB_no h2 hk⟩
def PK : Nat := 2000
theorem pws_lt {z : Int} {k : Nat} (h : PwS z.natAbs k) : (z ^ k).natAbs < 4294967296 ^ PK := by
 obtain ⟨J, h1, h2⟩ := h.limbs
 rw [Int.natAbs_pow]
 exact Nat.lt_of_lt_of_le h2 (pow_mono (show J ≤ PK from h1))
theorem pwN_lt (q : Rat) (k : Nat) : (pwN q k).natAbs < 4294967296 ^ PK := by
 unfold pwN
 split
 ·rename_i h; exact pws_lt h.1
 ·exact Nat.pow_pos (by omega)
theorem pwD_lt (q : Rat) (k : Nat) : (pwD q k).natAbs < 4294967296 ^ PK := by
 unfold pwD
 split
 ·rename_i h; exact pws_lt (z := (q.den : Int)) (by rw [Int.natAbs_natCast]; exact h.2)
 ·exact Nat.pow_pos (by omega)
theorem inv_num_abs (q : Rat) (hq : q ≠ 0) : (q⁻¹).num.natAbs = q.den := by
 have h0 : q.num ≠ 0 := fun e => hq (Rat.num_eq_zero.1 e)
 rw [Rat.inv_def, Rat.num_divInt, Int.natAbs_ediv_of_dvd]
 ·rw [Int.natAbs_mul, Int.natAbs_sign_of_ne_zero h0, Nat.one_mul, Int.natAbs_natCast, Int.natAbs_natCast]
  have : Int.gcd q.num q.den = 1 := q.reduced
  rw [this, Nat.div_one]
 ·exact Int.dvd_mul_of_dvd_right (Int.gcd_dvd_right ..)
theorem inv_den (q : Rat) (hq : q ≠ 0) : (q⁻¹).den = q.num.natAbs := by
 have h0 : q.num ≠ 0 := fun e => hq (Rat.num_eq_zero.1 e)
 rw [Rat.inv_def, Rat.den_divInt, if_neg h0]
 have : Int.gcd q.num q.den = 1 := q.reduced
 rw [this, Nat.div_one]
theorem mul_self_num (q : Rat) : (q * q).num = q.num * q.num := by
 rw [Rat.num_mul]
 have h : Nat.gcd (q.num * q.num).natAbs (q.den * q.den) = 1 := by
  rw [Int.natAbs_mul]
  exact Nat.Coprime.mul_left (Nat.Coprime.mul_right q.reduced q.reduced) (Nat.Coprime.mul_right q.reduced q.reduced)
 rw [h]; simp
theorem mul_self_den (q : Rat) : (q * q).den = q.den * q.den := by
 rw [Rat.den_mul]
 have h : Nat.gcd (q.num * q.num).natAbs (q.den * q.den) = 1 := by
  rw [Int.natAbs_mul]
  exact Nat.Coprime.mul_left (Nat.Coprime.mul_right q.reduced q.reduced) (Nat.Coprime.mul_right q.reduced q.reduced)
 rw [h, Nat.div_one]
theorem bits_le_one {n : Nat} (h : n ≠ 0) : bitsOf n ≤ 1 ↔ n = 1 := by
 rw [bits_le_iff]; omega
theorem mul_self_one {n : Nat} : n * n = 1 ↔ n = 1 := by
 constructor
 ·intro h; exact Nat.eq_one_of_mul_eq_one_right h
 ·rintro rfl; rfl
theorem pws_huge {a : Nat} (h : a ≠ 0) : PwS a 4611686018427387904 ↔ a = 1 := by
 unfold PwS
 rw [bits_le_one h]
 constructor
 ·rintro (h1 | h1 | h1)
  ·omega
  ·exact h1
  ·have : ¬ bitsOf a = 0 := fun e => h (by have := (bits_le_iff (n := a) (b := 0)).1 (by omega); omega)
   omega
 ·rintro rfl; exact Or.inr (Or.inl rfl)
theorem pwk_huge {a : Nat} (h : a ≠ 0) : PwK a 4611686018427387904 := by
 by_cases h1 : a = 1
 ·exact Or.inl ((pws_huge h).2 h1)
 ·have h2 : ¬ bitsOf a ≤ 1 := fun e => h1 ((bits_le_one h).1 e)
  exact Or.inr ⟨by omega, by omega⟩
theorem sq_ne {q : Rat} (hq : q ≠ 0) : q * q ≠ 0 := fun e => by
 rcases Rat.mul_eq_zero.1 e with h | h <;> exact hq h
theorem fit_min {q : Rat} (hq : q ≠ 0) : Fit (q * q)⁻¹ 4611686018427387904 ↔ bitsOf (q⁻¹).num.natAbs = 1 ∧ bitsOf (q⁻¹).den = 1 := by
 have h0 : q.num.natAbs ≠ 0 := fun e => hq (Rat.num_eq_zero.1 (Int.natAbs_eq_zero.1 e))
 have hs := sq_ne hq
 have b1 : ∀ {n : Nat}, n ≠ 0 → (bitsOf n = 1 ↔ n = 1) := fun {n} hn => by
  have e1 := bits_le_one hn
  have e2 : ¬ bitsOf n = 0 := fun e => hn (by have := (bits_le_iff (n := n) (b := 0)).1 (by omega); omega)
  omega
 unfold Fit
 rw [inv_num_abs _ hs, inv_den _ hs, inv_num_abs _ hq, inv_den _ hq, mul_self_num, mul_self_den, Int.natAbs_mul, pws_huge (Nat.mul_ne_zero q.den_nz q.den_nz), pws_huge (Nat.mul_ne_zero h0 h0), b1 q.den_nz, b1 h0, mul_self_one, mul_self_one]
theorem min_one {q : Rat} (hq : q ≠ 0) (h : Fit (q * q)⁻¹ 4611686018427387904) : pwN (q * q)⁻¹ 4611686018427387904 = 1 ∧ pwD (q * q)⁻¹ 4611686018427387904 = 1 := by
 have hs := sq_ne hq
 have h2 := h
 unfold Fit at h2
 rw [inv_num_abs _ hs, inv_den _ hs, pws_huge (q * q).den_nz, pws_huge (fun e => hs (Rat.num_eq_zero.1 (Int.natAbs_eq_zero.1 e)))] at h2
 unfold pwN pwD
 rw [if_pos h, if_pos h]
 constructor
 ·have e : (q * q)⁻¹.num.natAbs = 1 := by rw [inv_num_abs _ hs]; exact h2.1
  have e2 : (q * q)⁻¹.num = 1 ∨ (q * q)⁻¹.num = -1 := by omega
  rcases e2 with e2 | e2
  ·rw [e2, Int.one_pow]
  ·rw [e2, show (4611686018427387904 : Nat) = 2 * 2305843009213693952 from rfl, Int.pow_mul, show (-1 : Int) ^ 2 = 1 from rfl, Int.one_pow]
 ·have e : (q * q)⁻¹.den = 1 := by rw [inv_den _ hs]; exact h2.2
  rw [e]; exact Int.one_pow
theorem inv_pwk {q : Rat} (hq : q ≠ 0) {k : Nat} (h : PwK q.num.natAbs k ∧ PwK q.den k) : PwK (q⁻¹).num.natAbs k ∧ PwK (q⁻¹).den k := by
 rw [inv_num_abs _ hq, inv_den _ hq]; exact ⟨h.2, h.1⟩
theorem min_pwk {q : Rat} (hq : q ≠ 0) : PwK ((q * q)⁻¹).num.natAbs 4611686018427387904 ∧ PwK ((q * q)⁻¹).den 4611686018427387904 := by
 have hs := sq_ne hq
 rw [inv_num_abs _ hs, inv_den _ hs]
 exact ⟨pwk_huge (q * q).den_nz, pwk_huge (fun e => hs (Rat.num_eq_zero.1 (Int.natAbs_eq_zero.1 e)))⟩
def IB (w w' : World) (z : Int) (b : Bool) (e : Ending) : Prop := ∃ (s0 : Bool) (s1 : Option Addr) (s2 s3 : Nat), e = .returned (.tuple #[.agg #[.bool s0, .slice s1 s2 s3], .bool b]) ∧ IN w' w.heap.size (.bool s0) (.slice s1 s2 s3) z ∧ Below w.heap.size w w'
def RB (w w' : World) (n m : Int) (b : Bool) (e : Ending) : Prop := ∃ (s0 : Bool) (s1 : Option Addr) (s2 s3 : Nat) (s4 : Bool) (s5 : Option Addr) (s6 s7 : Nat), e = .returned (.tuple #[.agg #[.bool s0, .slice s1 s2 s3, .bool s4, .slice s5 s6 s7], .bool b]) ∧ FN w' w.heap.size (.bool s0) (.slice s1 s2 s3) (.bool s4) (.slice s5 s6 s7) n m ∧ Below w.heap.size w w'
structure T3 (w : World) : Prop where
 tab : Tab32 w
 lt : 0 < w.heap.size
theorem T3.next {w w' : World} (h : T3 w) (hb : Below w.heap.size w w') : T3 w' := ⟨h.tab.below hb h.lt, Nat.lt_of_lt_of_le h.lt hb.size⟩
section
variable {fn : Func} {a : Act} {w W w' : World} {p u : Tmp} {r B : Nat} {x y z9 u9 : Value} {s0 s4 : Bool} {s1 s5 : Option Addr} {s2 s3 s6 s7 : Nat} {z er n m : Int} {ok : Bool} {e : Ending}
theorem ZE.ie (h : ZE w w' z er e) : IE w w' z er e := by
 obtain ⟨zs, A', c', rfl, n, r, hb⟩ := h
 exact ⟨_, _, _, _, rfl, IN.of n r, hb⟩
theorem ZB.ib (h : ZB w w' z ok e) : IB w w' z ok e := by
 obtain ⟨zs, A', c', rfl, n, r, hb⟩ := h
 exact ⟨_, _, _, _, rfl, IN.of n r, hb⟩
theorem rb_ret (hbel : Below w.heap.size w W) (hB : Blk W r 27 [x, y, z9, u9]) (hr : w.heap.size ≤ r) (hn : FN W w.heap.size (.bool s0) (.slice s1 s2 s3) (.bool s4) (.slice s5 s6 s7) n m) (hres0 : fn.results = #[.cell p 27, .tmp u]) (hp : a.tmps.getD p undef = .pointer (some ⟨r, 0, none⟩)) (hu : a.tmps.getD u undef = .bool ok) (hd : a.defers = []) :
  bodyPost Tryz.prog fn (fun e w' => RB w w' n m ok e) .ret a ((((W.setCell ⟨r, 0, none⟩ (.bool s0)).setCell ⟨r, 1, none⟩ (.slice s1 s2 s3)).setCell ⟨r, 2, none⟩ (.bool s4)).setCell ⟨r, 3, none⟩ (.slice s5 s6 s7)) :=
 bodyPost_ret (results_rs hres0 hp (blk_quad hB _ _ _ _)) hd ⟨_, _, _, _, _, _, _, _, by rw [hu], fn4 hn hB, bsc (bsc (bsc (bsc hbel hr _) hr _) hr _) hr _⟩
theorem RB.to {n2 m2 : Int} {ok2 : Bool} (h : RB w w' n m ok e) (e1 : n = n2) (e2 : m = m2) (e3 : ok = ok2) : RB w w' n2 m2 ok2 e := e1 ▸ e2 ▸ e3 ▸ h
end
section
variable {w : World} {B B2 : Nat} {K : Nat} {z : Int} {p q9 : Value}
theorem IV.zpow (h : IV B w p q9 z K) (hK : K ≤ 67108863) (k : Nat) (hk : k < 9223372036854775808) (hs : PwK z.natAbs k) (hT : T3 w) : Calls Tryz.prog 91 #[.agg #[p, q9], .int .i64 (k : Int)] w fun e w' => IE w w' (powV z k) (powE z k) e := by
 obtain ⟨g, A, c, xs, rfl, rfl, hz⟩ := h.open_
 unfold powV powE
 by_cases hf : PwS z.natAbs k
 ·rw [if_pos hf, if_pos hf]
  exact (zpow_out k (z.natAbs ^ k) (z ^ k) (fun V hV => npow_all (hz.next hV).hv hK k hk hf (hT.next hV).tab (hT.next hV).lt) (by rw [← pow_ival, hz.sg]) hk).mono fun e w' r => r.ie
 ·rw [if_neg hf, if_neg hf]
  obtain ⟨h1, h2⟩ := hs.resolve_left hf
  exact (zpow_no (k : Int) 4 (fun V hV => npow_big (hz.next hV).hv (by omega) k hk h1 h2) (by decide)).mono fun e w' r => r.ie
theorem IV.rzpow (h : IV B w p q9 z K) (hK : K ≤ 67108863) (k : Nat) (hk : k < 9223372036854775808) (hs : PwK z.natAbs k) : Calls Tryz.prog 93 #[.agg #[p, q9], .int .i64 (k : Int)] w fun e w' => IB w w' (powV z k) (decide (PwS z.natAbs k)) e := by
 obtain ⟨g, A, c, xs, rfl, rfl, hz⟩ := h.open_
 unfold powV
 by_cases hf : PwS z.natAbs k
 ·rw [if_pos hf, decide_eq_true hf]
  obtain ⟨J, j1, j2⟩ := hf.limbs
  exact (rzpow_out k (z.natAbs ^ k) J (z ^ k) (fun V hV => rpow_all (hz.next hV).hv hK k hk hf) (by rw [← pow_ival, hz.sg]) hk (by omega) j2).mono fun e w' r => r.ib
 ·rw [if_neg hf, decide_eq_false hf]
  obtain ⟨h1, h2⟩ := hs.resolve_left hf
  exact (rzpow_no (k : Int) (fun V hV => rpow_much (hz.next hV).hv (by omega) k hk h1 h2)).mono fun e w' r => r.ib
theorem IV.rlen {g : Bool} {A : Option Addr} {n c : Nat} (h : IV B w (.bool g) (.slice A n c) z K) (hK : K ≤ 67108864) : Calls Tryz.prog 41 #[.slice A n c] w fun e w' => e = .returned (.int .i64 (bitsOf z.natAbs : Nat)) ∧ Below w.heap.size w w' := by
 obtain ⟨g2, A2, c2, xs, _, e2, h⟩ := h.open_
 injection e2 with e3 e4 e5
 subst e3 e4 e5
 exact h.hv.lenP hK
set_option maxHeartbeats 6400000 in
theorem long_all (b : Nat) (hb : b ≤ 67108864) (k : Int) (h1 : -9223372036854775808 ≤ k) (h2 : k ≤ 9223372036854775807) : Calls Tryz.prog 40 #[.int .i64 (b : Int), .int .i64 k] w fun e w' => e = .returned (.bool (longB b k)) ∧ Below w.heap.size w w' := by
 by_cases hm : k = -9223372036854775808
 ·subst hm
  rw [show longB b (-9223372036854775808) = false from decide_eq_false (fun h => h.1 rfl)]
  clear h1 h2
  have w9 : wrap64 9223372036854775808 = -9223372036854775808 := by unfold wrap64; decide
  go_enter Tryz.func40, Tryz.ntmps40
  go_wp2_with fail
  go_ret
  exact ⟨rfl, br9⟩
 obtain ⟨L, hL⟩ : ∃ L, L = longB b k := ⟨_, rfl⟩
 rw [← hL]
 obtain ⟨n, hn⟩ : ∃ n, n = k.natAbs := ⟨_, rfl⟩
 unfold longB at hL
 rw [← hn] at hL
 have t3 : decide ((n : Int) < 0) = false := decide_eq_false (by omega)
 have u3 : wrap64 (n : Int) = (n : Int) ∨ (n : Int) = 9223372036854775808 := (Classical.em ((n : Int) = 9223372036854775808)).elim Or.inr fun h => Or.inl (IntWalk.wrap64_in _ (by omega))
 replace u3 := u3.resolve_right (by omega)
 have wn : k < 0 → wrap64 (-k) = (n : Int) := fun hk => by rw [show -k = (n : Int) by omega]; exact u3
 by_cases hb1 : b ≤ 1
 ·have t4 : decide ((b : Int) ≤ 1) = true := decide_eq_true (by omega)
  have t4b : decide (b ≤ 1) = true := decide_eq_true hb1
  rw [decide_eq_false (by omega)] at hL
  subst hL
  clear h1 h2 hm hb
  by_cases hk : k < 0
  ·have t1 : decide (k < 0) = true := decide_eq_true hk
   have w0 : wrap64 (-k) = (n : Int) := wn hk
   have w0b : -k = (n : Int) := by omega
   clear hn wn
   go_enter Tryz.func40, Tryz.ntmps40
   go_wp2_with fail
   go_ret
   exact ⟨rfl, br9⟩
  ·obtain rfl : k = (n : Int) := by omega
   clear hn wn
   go_enter Tryz.func40, Tryz.ntmps40
   go_wp2_with fail
   go_ret
   exact ⟨rfl, br9⟩
 have t4 : decide ((b : Int) ≤ 1) = false := decide_eq_false (by omega)
 have t4b : decide (b ≤ 1) = false := decide_eq_false hb1
 by_cases hn1 : 67108864 ≤ n
 ·have t5 : decide ((67108864 : Int) ≤ (n : Int)) = true := decide_eq_true (by omega)
  have t5b : decide (67108864 ≤ n) = true := decide_eq_true hn1
  rw [decide_eq_false (by omega)] at hL
  subst hL
  clear h1 h2 hm hb
  by_cases hk : k < 0
  ·have t1 : decide (k < 0) = true := decide_eq_true hk
   have w0 : wrap64 (-k) = (n : Int) := wn hk
   have w0b : -k = (n : Int) := by omega
   clear hn wn
   go_enter Tryz.func40, Tryz.ntmps40
   go_wp2_with fail
   go_ret
   exact ⟨rfl, br9⟩
  ·obtain rfl : k = (n : Int) := by omega
   clear hn wn
   go_enter Tryz.func40, Tryz.ntmps40
   go_wp2_with fail
   go_ret
   exact ⟨rfl, br9⟩
 have t5 : decide ((67108864 : Int) ≤ (n : Int)) = false := decide_eq_false (by omega)
 have t5b : decide (67108864 ≤ n) = false := decide_eq_false hn1
 have m1 : b * n ≤ 67108864 * 67108864 := Nat.mul_le_mul hb (by omega)
 have m2 : (b - 1) * n ≤ 67108864 * 67108864 := Nat.mul_le_mul (by omega) (by omega)
 have w1 : wrap64 ((b : Int) * (n : Int)) = ((b * n : Nat) : Int) := by rw [← Int.natCast_mul]; exact IntWalk.wrap64_in _ (by omega)
 have w2b : (b : Int) - 1 = ((b - 1 : Nat) : Int) := by omega
 have w3 : wrap64 (((b - 1 : Nat) : Int) * (n : Int)) = (((b - 1) * n : Nat) : Int) := by rw [← Int.natCast_mul]; exact IntWalk.wrap64_in _ (by omega)
 obtain ⟨bn, hbn⟩ : ∃ bn, bn = b * n := ⟨_, rfl⟩
 obtain ⟨b9, hb9⟩ : ∃ bn, bn = b - 1 := ⟨_, rfl⟩
 rw [← hb9] at w2b w3 m2 hL
 obtain ⟨bm, hbm⟩ : ∃ bn, bn = b9 * n := ⟨_, rfl⟩
 rw [← hbn] at w1 m1 hL
 rw [← hbm] at w3 m2 hL
 clear hbn hb9 hbm
 have u1 : wrap64 ((b : Int) * (n : Int)) = (bn : Int) := w1
 have u2 : wrap64 ((b9 : Int) * (n : Int)) = (bm : Int) := w3
 have u4 : wrap64 ((b9 : Int)) = (b9 : Int) := IntWalk.wrap64_in _ (by omega)
 clear w1 w3
 by_cases hc : 40000 < bn
 ·have t6 : decide ((40000 : Int) < (bn : Int)) = true := decide_eq_true (by omega)
  have t6b : decide (40000 < bn) = true := decide_eq_true hc
  by_cases hd : bm < 67108864
  ·have t7 : decide ((bm : Int) < 67108864) = true := decide_eq_true (by omega)
   have t7b : decide (bm < 67108864) = true := decide_eq_true hd
   have h9 : k ≠ -9223372036854775808 ∧ 1 < b ∧ n < 67108864 ∧ 40000 < bn ∧ bm < 67108864 := ⟨hm, Nat.lt_of_not_le hb1, Nat.lt_of_not_le hn1, hc, hd⟩
   replace hL := hL.trans (decide_eq_true h9)
   clear h9
   subst hL
   clear h1 h2 hm hb
   by_cases hk : k < 0
   ·have t1 : decide (k < 0) = true := decide_eq_true hk
    have w0 : wrap64 (-k) = (n : Int) := wn hk
    have w0b : -k = (n : Int) := by omega
    clear hn wn
    go_enter Tryz.func40, Tryz.ntmps40
    go_wp2_with fail
    go_ret
    exact ⟨rfl, br9⟩
   ·obtain rfl : k = (n : Int) := by omega
    clear hn wn
    go_enter Tryz.func40, Tryz.ntmps40
    go_wp2_with fail
    go_ret
    exact ⟨rfl, br9⟩
  ·have t7 : decide ((bm : Int) < 67108864) = false := decide_eq_false (by omega)
   have t7b : decide (bm < 67108864) = false := decide_eq_false hd
   rw [decide_eq_false (by omega)] at hL
   subst hL
   clear h1 h2 hm hb
   by_cases hk : k < 0
   ·have t1 : decide (k < 0) = true := decide_eq_true hk
    have w0 : wrap64 (-k) = (n : Int) := wn hk
    have w0b : -k = (n : Int) := by omega
    clear hn wn
    go_enter Tryz.func40, Tryz.ntmps40
    go_wp2_with fail
    go_ret
    exact ⟨rfl, br9⟩
   ·obtain rfl : k = (n : Int) := by omega
    clear hn wn
    go_enter Tryz.func40, Tryz.ntmps40
    go_wp2_with fail
    go_ret
    exact ⟨rfl, br9⟩
 ·have t6 : decide ((40000 : Int) < (bn : Int)) = false := decide_eq_false (by omega)
  have t6b : decide (40000 < bn) = false := decide_eq_false hc
  rw [decide_eq_false (by omega)] at hL
  subst hL
  clear h1 h2 hm hb
  by_cases hk : k < 0
  ·have t1 : decide (k < 0) = true := decide_eq_true hk
   have w0 : wrap64 (-k) = (n : Int) := wn hk
   have w0b : -k = (n : Int) := by omega
   clear hn wn
   go_enter Tryz.func40, Tryz.ntmps40
   go_wp2_with fail
   go_ret
   exact ⟨rfl, br9⟩
  ·obtain rfl : k = (n : Int) := by omega
   clear hn wn
   go_enter Tryz.func40, Tryz.ntmps40
   go_wp2_with fail
   go_ret
   exact ⟨rfl, br9⟩
end
section
variable {w : World} {B : Nat} {K : Nat} {z : Int} {q r9 : Rat} {a0 a4 : Bool} {a1 a5 : Option Addr} {a2 a3 a6 a7 : Nat}
theorem ib_to {w : World} {P : FuncId} {aa : Array Value} {z : Int} {b b2 : Bool} (h : Calls Tryz.prog P aa w fun e w' => IB w w' z b e) (e9 : b = b2) : Calls Tryz.prog P aa w fun e w' => IB w w' z b2 e := e9 ▸ h
set_option maxHeartbeats 12800000 in
set_option maxRecDepth 20000 in
theorem qpow_pos (h : QV B w (.bool a0) (.slice a1 a2 a3) (.bool a4) (.slice a5 a6 a7) q K) (hK1 : 1 ≤ K) (hK : K ≤ 2097152) (hT : Tb w) (h3 : T3 w) (n : Nat) (hn : n < 9223372036854775808) (hk : PwK q.num.natAbs n ∧ PwK q.den n) : Calls Tryz.prog 42 #[.agg #[.bool a0, .slice a1 a2 a3, .bool a4, .slice a5 a6 a7], .int .i64 (n : Int)] w fun e w' => RE w w' (pwN q n) (pwD q n) (pwE q n) e := by
 have HA := hi9 h
 have HQ := hi9 h.qb
 have HT := hi9 hT
 have TT := hi9 h3
 have QK : Hid (QB q K) := h.qb
 have t1 : decide ((n : Int) < 0) = false := decide_eq_false (by omega)
 have t2 : ((n : Int) == -9223372036854775808) = false := beq_eq_false_iff_ne.2 (by omega)
 obtain ⟨N9, hN9⟩ : ∃ v, v = pwN q n := ⟨_, rfl⟩
 obtain ⟨D9, hD9⟩ : ∃ v, v = pwD q n := ⟨_, rfl⟩
 obtain ⟨G9, hG9⟩ : ∃ v, v = pwE q n := ⟨_, rfl⟩
 rw [← hN9, ← hD9, ← hG9]
 obtain ⟨vN, hvN⟩ : ∃ v, v = powV q.num n := ⟨_, rfl⟩
 obtain ⟨vD, hvD⟩ : ∃ v, v = powV (q.den : Int) n := ⟨_, rfl⟩
 obtain ⟨eN, heN⟩ : ∃ v : Int, v = powE q.num n := ⟨_, rfl⟩
 obtain ⟨eD, heD⟩ : ∃ v : Int, v = powE (q.den : Int) n := ⟨_, rfl⟩
 have P1 : Hid (∀ {p p2 : Value} {B9 : Nat} (W : World) (hW : Below w.heap.size w W) (_ : IV B9 W p p2 q.num K), Calls Tryz.prog 91 #[.agg #[p, p2], .int .i64 (n : Int)] W fun e w' => IE W w' vN eN e) := by
  show ∀ {p p2 : Value} {B9 : Nat} (W : World) (hW : Below w.heap.size w W) (_ : IV B9 W p p2 q.num K), Calls Tryz.prog 91 #[.agg #[p, p2], .int .i64 (n : Int)] W fun e w' => IE W w' vN eN e
  intro p p2 B9 W hW hi
  rw [hvN, heN]
  exact hi.zpow (by omega) n hn hk.1 (TT.out.next hW)
 have P2 : Hid (∀ {p p2 : Value} {B9 : Nat} (W : World) (hW : Below w.heap.size w W) (_ : IV B9 W p p2 (q.den : Int) K), Calls Tryz.prog 91 #[.agg #[p, p2], .int .i64 (n : Int)] W fun e w' => IE W w' vD eD e) := by
  show ∀ {p p2 : Value} {B9 : Nat} (W : World) (hW : Below w.heap.size w W) (_ : IV B9 W p p2 (q.den : Int) K), Calls Tryz.prog 91 #[.agg #[p, p2], .int .i64 (n : Int)] W fun e w' => IE W w' vD eD e
  intro p p2 B9 W hW hi
  rw [hvD, heD]
  exact hi.zpow (by omega) n hn hk.2 (TT.out.next hW)
 have E1 : Hid ((PwS q.num.natAbs n ∧ eN = 0) ∨ (¬ PwS q.num.natAbs n ∧ eN = 4)) := by
  show _ ∨ _
  by_cases h : PwS q.num.natAbs n
  ·exact Or.inl ⟨h, heN.trans (if_pos h)⟩
  ·exact Or.inr ⟨h, heN.trans (if_neg h)⟩
 have E2 : Hid ((PwS q.den n ∧ eD = 0) ∨ (¬ PwS q.den n ∧ eD = 4)) := by
  show _ ∨ _
  by_cases h : PwS q.den n
  ·exact Or.inl ⟨h, heD.trans (if_pos h)⟩
  ·exact Or.inr ⟨h, heD.trans (if_neg h)⟩
 have V1 : Hid (Fit q n → N9 = vN) := fun h => hN9.trans ((if_pos h).trans ((hvN.trans (if_pos h.1)).symm))
 have V2 : Hid (Fit q n → D9 = vD) := fun h => hD9.trans ((if_pos h).trans ((hvD.trans (if_pos h.2)).symm))
 have V3 : Hid ((Fit q n → G9 = 0) ∧ (¬ Fit q n → N9 = 0 ∧ D9 = 0 ∧ G9 = 4)) := ⟨fun h => hG9.trans (if_pos h), fun h => ⟨hN9.trans (if_neg h), hD9.trans (if_neg h), hG9.trans (if_neg h)⟩⟩
 clear hN9 hD9 hG9
 clear hvN hvD heN heD hk hn
 clear h hT h3
 obtain ⟨b0', r0'⟩ := blk_rr w (.bool a0) (.slice a1 a2 a3) (.bool a4) (.slice a5 a6 a7) (.bool false) (.slice none 0 0) (.bool false) (.slice none 0 0)
 have k0 := bel_two w (.cells #[.bool a0, .slice a1 a2 a3, .bool a4, .slice a5 a6 a7] 27) (.cells #[.bool false, .slice none 0 0, .bool false, .slice none 0 0] 27)
 go_enter Tryz.func42, Tryz.ntmps42
 go_upto_region 1 with fail
 obtain ⟨w0, hw0⟩ : ∃ v, v = (w.alloc (.cells #[.bool a0, .slice a1 a2 a3, .bool a4, .slice a5 a6 a7] 27)).alloc (.cells #[.bool false, .slice none 0 0, .bool false, .slice none 0 0] 27) := ⟨_, rfl⟩
 rw [← hw0] at k0 b0' r0' ⊢
 clear hw0
 have H0 := hi9 b0'
 have R0 := hi9 r0'
 have n1 : w.heap.size + 1 ≠ w.heap.size := by omega
 clear b0' r0'
 obtain ⟨c0, c1, c2, c3, -, -, -, -⟩ := H0.out.four
 go_wp2_with fail
 refine (((HA.out.next k0).qnorm (by omega) (HT.out.next k0))).mono ?_
 rintro e w1 ⟨s0, s1, s2, s3, s4, s5, s6, s7, rfl, nn, hb⟩
 have k1 := bst k0 hb nl9
 replace H0 := hi9 (H0.out.below hb H0.out.lt)
 replace R0 := hi9 (R0.out.below hb R0.out.lt)
 have sk := k0.size
 clear c0 c1 c2 c3 k0 hb
 have nk := nn.mono (B2 := w.heap.size) sk
 obtain ⟨z0, z1, z2, z3, y0, y1, y2, y3⟩ := H0.out.four
 go_upto_region 2 with fail
 obtain ⟨v2, hv⟩ : ∃ V, V = set4 w1 w.heap.size (.bool s0) (.slice s1 s2 s3) (.bool s4) (.slice s5 s6 s7) := ⟨_, rfl⟩
 have hv2 := hv
 unfold set4 at hv2
 rw [← hv2]
 have b2 : Blk v2 w.heap.size 27 [.bool s0, .slice s1 s2 s3, .bool s4, .slice s5 s6 s7] := by rw [hv]; exact set4_same H0.out
 have r2 : Blk v2 (w.heap.size + 1) 27 [.bool false, .slice none 0 0, .bool false, .slice none 0 0] := by rw [hv]; exact set4_far R0.out n1
 have k2 : Below w.heap.size w v2 := by rw [hv]; exact set4_below k1 nl9
 have F9 : Hid (FN v2 w.heap.size (.bool s0) (.slice s1 s2 s3) (.bool s4) (.slice s5 s6 s7) (q.num) ((q.den : Int))) := by show FN v2 w.heap.size (.bool s0) (.slice s1 s2 s3) (.bool s4) (.slice s5 s6 s7) (q.num) ((q.den : Int)); rw [hv]; exact fn4 nk H0.out
 replace H0 := hi9 b2
 replace R0 := hi9 r2
 clear hv hv2 z0 z1 z2 z3 y0 y1 y2 y3 b2 r2 nn nk sk k1
 obtain ⟨c0, c1, c2, c3, -, -, -, -⟩ := H0.out.four
 go_wp2_with fail
 refine ((P1.out _ k2 (F9.out.num.iv (B2 := 0) QK.out.num))).mono ?_
 rintro e w3 ⟨x0, x1, x2, x3, rfl, nn, hb⟩
 have k3 := bst k2 hb nl9
 replace H0 := hi9 (H0.out.below hb H0.out.lt)
 replace R0 := hi9 (R0.out.below hb R0.out.lt)
 replace F9 := hi9 (F9.out.next hb)
 have sk := k2.size
 clear c0 c1 c2 c3 k2 hb
 have F1 := hi9 (nn.mono (B2 := w.heap.size) sk)
 clear nn sk
 go_upto_region 13 with fail
 obtain ⟨v4, hv⟩ : ∃ v, v = w3.alloc (.cells #[.bool x0, .slice x1 x2 x3] 25) := ⟨_, rfl⟩
 rw [← hv]
 have bn : Blk v4 w3.heap.size 25 [.bool x0, .slice x1 x2 x3] := by rw [hv]; exact Blk.new_ rfl
 have jn : Below w3.heap.size w3 v4 := by rw [hv]; exact bel_one _ _
 obtain ⟨gn, hg⟩ : ∃ g, g = w3.heap.size := ⟨_, rfl⟩
 rw [← hg] at bn ⊢
 clear hg hv
 have Hn := hi9 bn
 clear bn
 have k4 := bst k3 jn nl9
 replace H0 := hi9 (H0.out.below jn H0.out.lt)
 replace R0 := hi9 (R0.out.below jn R0.out.lt)
 replace F9 := hi9 (F9.out.next jn)
 replace F1 := hi9 (F1.out.next jn)
 clear jn k3
 obtain ⟨c0, c1, c2, c3, -, -, -, -⟩ := H0.out.four
 go_wp2_with fail
 refine (P2.out _ k4 (F9.out.den.iv (B2 := 0) (by rw [Int.natAbs_natCast]; exact QK.out.den))).mono ?_
 rintro e w5 ⟨y0, y1, y2, y3, rfl, nn, hb⟩
 have k5 := bst k4 hb nl9
 replace H0 := hi9 (H0.out.below hb H0.out.lt)
 replace R0 := hi9 (R0.out.below hb R0.out.lt)
 replace Hn := hi9 (Hn.out.below hb Hn.out.lt)
 replace F9 := hi9 (F9.out.next hb)
 replace F1 := hi9 (F1.out.next hb)
 have sk := k4.size
 clear c0 c1 c2 c3 k4 hb
 have F2 := hi9 (nn.mono (B2 := w.heap.size) sk)
 clear nn sk
 go_upto_region 14 with fail
 obtain ⟨v6, hv⟩ : ∃ v, v = w5.alloc (.cells #[.bool y0, .slice y1 y2 y3] 25) := ⟨_, rfl⟩
 rw [← hv]
 have bn : Blk v6 w5.heap.size 25 [.bool y0, .slice y1 y2 y3] := by rw [hv]; exact Blk.new_ rfl
 have jn : Below w5.heap.size w5 v6 := by rw [hv]; exact bel_one _ _
 obtain ⟨gd, hg⟩ : ∃ g, g = w5.heap.size := ⟨_, rfl⟩
 rw [← hg] at bn ⊢
 clear hg hv
 have Hd := hi9 bn
 clear bn
 have k6 := bst k5 jn nl9
 replace H0 := hi9 (H0.out.below jn H0.out.lt)
 replace R0 := hi9 (R0.out.below jn R0.out.lt)
 replace F9 := hi9 (F9.out.next jn)
 replace F2 := hi9 (F2.out.next jn)
 replace Hn := hi9 (Hn.out.below jn Hn.out.lt)
 replace F1 := hi9 (F1.out.next jn)
 clear jn k5
 have rgt : w.heap.size ≤ w.heap.size + 1 := Nat.le_succ _
 obtain ⟨d0, d1, -, -⟩ := Hn.out.two
 obtain ⟨f0, f1, -, -⟩ := Hd.out.two
 obtain ⟨u0, u1, u2, u3, i0, i1, i2, i3⟩ := R0.out.four
 rcases E1.out with ⟨f, rfl⟩ | ⟨f, rfl⟩
 ·rcases E2.out with ⟨g, rfl⟩ | ⟨g, rfl⟩
  ·obtain rfl := V1.out ⟨f, g⟩
   obtain rfl := V2.out ⟨f, g⟩
   obtain rfl := V3.out.1 ⟨f, g⟩
   have GG : Hid (FN v6 w.heap.size (.bool x0) (.slice x1 x2 x3) (.bool y0) (.slice y1 y2 y3) _ _) := hi9 ⟨F1.out, F2.out⟩
   clear f g V1 V2 V3 E1 E2 P1 P2
   go_wp2_with fail
   exact re_ret k6 R0.out rgt GG.out rfl rfl rfl rfl
  ·obtain ⟨rfl, rfl, rfl⟩ := V3.out.2 (fun h => g h.2)
   clear f g V1 V2 V3 E1 E2 P1 P2
   go_wp2_with fail
   exact re_ret k6 R0.out rgt FN.zero rfl rfl rfl rfl
 ·obtain ⟨rfl, rfl, rfl⟩ := V3.out.2 (fun h => f h.1)
  clear f V1 V2 V3 E1 E2 P1 P2
  go_wp2_with fail
  exact re_ret k6 R0.out rgt FN.zero rfl rfl rfl rfl
set_option maxHeartbeats 12800000 in
set_option maxRecDepth 20000 in
theorem rqpow_pos (h : QV B w (.bool a0) (.slice a1 a2 a3) (.bool a4) (.slice a5 a6 a7) q K) (hK1 : 1 ≤ K) (hK : K ≤ 2097152) (n : Nat) (hn : n < 9223372036854775808) (hk : PwK q.num.natAbs n ∧ PwK q.den n) : Calls Tryz.prog 43 #[.agg #[.bool a0, .slice a1 a2 a3, .bool a4, .slice a5 a6 a7], .int .i64 (n : Int)] w fun e w' => RB w w' (pwN q n) (pwD q n) (decide (Fit q n)) e := by
 have HA := hi9 h
 have HQ := hi9 h.qb
 have QK : Hid (QB q K) := h.qb
 have t1 : decide ((n : Int) < 0) = false := decide_eq_false (by omega)
 obtain ⟨N9, hN9⟩ : ∃ v, v = pwN q n := ⟨_, rfl⟩
 obtain ⟨D9, hD9⟩ : ∃ v, v = pwD q n := ⟨_, rfl⟩
 obtain ⟨G9, hG9⟩ : ∃ v, v = decide (Fit q n) := ⟨_, rfl⟩
 rw [← hN9, ← hD9, ← hG9]
 obtain ⟨vN, hvN⟩ : ∃ v, v = powV q.num n := ⟨_, rfl⟩
 obtain ⟨vD, hvD⟩ : ∃ v, v = powV (q.den : Int) n := ⟨_, rfl⟩
 obtain ⟨eN, heN⟩ : ∃ v : Bool, v = decide (PwS q.num.natAbs n) := ⟨_, rfl⟩
 obtain ⟨eD, heD⟩ : ∃ v : Bool, v = decide (PwS q.den n) := ⟨_, rfl⟩
 have P1 : Hid (∀ {p p2 : Value} {B9 : Nat} (W : World) (hW : Below w.heap.size w W) (_ : IV B9 W p p2 q.num K), Calls Tryz.prog 93 #[.agg #[p, p2], .int .i64 (n : Int)] W fun e w' => IB W w' vN eN e) := by
  show ∀ {p p2 : Value} {B9 : Nat} (W : World) (hW : Below w.heap.size w W) (_ : IV B9 W p p2 q.num K), Calls Tryz.prog 93 #[.agg #[p, p2], .int .i64 (n : Int)] W fun e w' => IB W w' vN eN e
  intro p p2 B9 W hW hi
  rw [hvN, heN]
  exact hi.rzpow (by omega) n hn hk.1
 have P2 : Hid (∀ {p p2 : Value} {B9 : Nat} (W : World) (hW : Below w.heap.size w W) (_ : IV B9 W p p2 (q.den : Int) K), Calls Tryz.prog 93 #[.agg #[p, p2], .int .i64 (n : Int)] W fun e w' => IB W w' vD eD e) := by
  show ∀ {p p2 : Value} {B9 : Nat} (W : World) (hW : Below w.heap.size w W) (_ : IV B9 W p p2 (q.den : Int) K), Calls Tryz.prog 93 #[.agg #[p, p2], .int .i64 (n : Int)] W fun e w' => IB W w' vD eD e
  intro p p2 B9 W hW hi
  rw [hvD, heD]
  exact (ib_to (hi.rzpow (by omega) n hn hk.2) rfl)
 have E1 : Hid ((PwS q.num.natAbs n ∧ eN = true) ∨ (¬ PwS q.num.natAbs n ∧ eN = false)) := by
  show _ ∨ _
  by_cases h : PwS q.num.natAbs n
  ·exact Or.inl ⟨h, heN.trans (decide_eq_true h)⟩
  ·exact Or.inr ⟨h, heN.trans (decide_eq_false h)⟩
 have E2 : Hid ((PwS q.den n ∧ eD = true) ∨ (¬ PwS q.den n ∧ eD = false)) := by
  show _ ∨ _
  by_cases h : PwS q.den n
  ·exact Or.inl ⟨h, heD.trans (decide_eq_true h)⟩
  ·exact Or.inr ⟨h, heD.trans (decide_eq_false h)⟩
 have V1 : Hid (Fit q n → N9 = vN) := fun h => hN9.trans ((if_pos h).trans ((hvN.trans (if_pos h.1)).symm))
 have V2 : Hid (Fit q n → D9 = vD) := fun h => hD9.trans ((if_pos h).trans ((hvD.trans (if_pos h.2)).symm))
 have V3 : Hid ((Fit q n → G9 = true) ∧ (¬ Fit q n → N9 = 0 ∧ D9 = 0 ∧ G9 = false)) := ⟨fun h => hG9.trans (decide_eq_true h), fun h => ⟨hN9.trans (if_neg h), hD9.trans (if_neg h), hG9.trans (decide_eq_false h)⟩⟩
 clear hN9 hD9 hG9
 clear hvN hvD heN heD hk hn
 clear h
 obtain ⟨b0', r0'⟩ := blk_rr w (.bool a0) (.slice a1 a2 a3) (.bool a4) (.slice a5 a6 a7) (.bool false) (.slice none 0 0) (.bool false) (.slice none 0 0)
 have k0 := bel_two w (.cells #[.bool a0, .slice a1 a2 a3, .bool a4, .slice a5 a6 a7] 27) (.cells #[.bool false, .slice none 0 0, .bool false, .slice none 0 0] 27)
 go_enter Tryz.func43, Tryz.ntmps43
 go_upto_region 1 with fail
 obtain ⟨w0, hw0⟩ : ∃ v, v = (w.alloc (.cells #[.bool a0, .slice a1 a2 a3, .bool a4, .slice a5 a6 a7] 27)).alloc (.cells #[.bool false, .slice none 0 0, .bool false, .slice none 0 0] 27) := ⟨_, rfl⟩
 rw [← hw0] at k0 b0' r0' ⊢
 clear hw0
 have H0 := hi9 b0'
 have R0 := hi9 r0'
 have n1 : w.heap.size + 1 ≠ w.heap.size := by omega
 clear b0' r0'
 obtain ⟨c0, c1, c2, c3, -, -, -, -⟩ := H0.out.four
 go_wp2_with fail
 refine (((HA.out.next k0).rqnorm (by omega))).mono ?_
 rintro e w1 ⟨s0, s1, s2, s3, s4, s5, s6, s7, rfl, nn, hb⟩
 have k1 := bst k0 hb nl9
 replace H0 := hi9 (H0.out.below hb H0.out.lt)
 replace R0 := hi9 (R0.out.below hb R0.out.lt)
 have sk := k0.size
 clear c0 c1 c2 c3 k0 hb
 have nk := nn.mono (B2 := w.heap.size) sk
 obtain ⟨z0, z1, z2, z3, y0, y1, y2, y3⟩ := H0.out.four
 go_upto_region 2 with fail
 obtain ⟨v2, hv⟩ : ∃ V, V = set4 w1 w.heap.size (.bool s0) (.slice s1 s2 s3) (.bool s4) (.slice s5 s6 s7) := ⟨_, rfl⟩
 have hv2 := hv
 unfold set4 at hv2
 rw [← hv2]
 have b2 : Blk v2 w.heap.size 27 [.bool s0, .slice s1 s2 s3, .bool s4, .slice s5 s6 s7] := by rw [hv]; exact set4_same H0.out
 have r2 : Blk v2 (w.heap.size + 1) 27 [.bool false, .slice none 0 0, .bool false, .slice none 0 0] := by rw [hv]; exact set4_far R0.out n1
 have k2 : Below w.heap.size w v2 := by rw [hv]; exact set4_below k1 nl9
 have F9 : Hid (FN v2 w.heap.size (.bool s0) (.slice s1 s2 s3) (.bool s4) (.slice s5 s6 s7) (q.num) ((q.den : Int))) := by show FN v2 w.heap.size (.bool s0) (.slice s1 s2 s3) (.bool s4) (.slice s5 s6 s7) (q.num) ((q.den : Int)); rw [hv]; exact fn4 nk H0.out
 replace H0 := hi9 b2
 replace R0 := hi9 r2
 clear hv hv2 z0 z1 z2 z3 y0 y1 y2 y3 b2 r2 nn nk sk k1
 obtain ⟨c0, c1, c2, c3, -, -, -, -⟩ := H0.out.four
 go_wp2_with fail
 refine ((P1.out _ k2 (F9.out.num.iv (B2 := 0) QK.out.num))).mono ?_
 rintro e w3 ⟨x0, x1, x2, x3, rfl, nn, hb⟩
 have k3 := bst k2 hb nl9
 replace H0 := hi9 (H0.out.below hb H0.out.lt)
 replace R0 := hi9 (R0.out.below hb R0.out.lt)
 replace F9 := hi9 (F9.out.next hb)
 have sk := k2.size
 clear c0 c1 c2 c3 k2 hb
 have F1 := hi9 (nn.mono (B2 := w.heap.size) sk)
 clear nn sk
 go_upto_region 8 with fail
 obtain ⟨v4, hv⟩ : ∃ v, v = w3.alloc (.cells #[.bool x0, .slice x1 x2 x3] 25) := ⟨_, rfl⟩
 rw [← hv]
 have bn : Blk v4 w3.heap.size 25 [.bool x0, .slice x1 x2 x3] := by rw [hv]; exact Blk.new_ rfl
 have jn : Below w3.heap.size w3 v4 := by rw [hv]; exact bel_one _ _
 obtain ⟨gn, hg⟩ : ∃ g, g = w3.heap.size := ⟨_, rfl⟩
 rw [← hg] at bn ⊢
 clear hg hv
 have Hn := hi9 bn
 clear bn
 have k4 := bst k3 jn nl9
 replace H0 := hi9 (H0.out.below jn H0.out.lt)
 replace R0 := hi9 (R0.out.below jn R0.out.lt)
 replace F9 := hi9 (F9.out.next jn)
 replace F1 := hi9 (F1.out.next jn)
 clear jn k3
 obtain ⟨c0, c1, c2, c3, -, -, -, -⟩ := H0.out.four
 go_wp2_with fail
 refine (P2.out _ k4 (F9.out.den.iv (B2 := 0) (by rw [Int.natAbs_natCast]; exact QK.out.den))).mono ?_
 rintro e w5 ⟨y0, y1, y2, y3, rfl, nn, hb⟩
 have k5 := bst k4 hb nl9
 replace H0 := hi9 (H0.out.below hb H0.out.lt)
 replace R0 := hi9 (R0.out.below hb R0.out.lt)
 replace Hn := hi9 (Hn.out.below hb Hn.out.lt)
 replace F9 := hi9 (F9.out.next hb)
 replace F1 := hi9 (F1.out.next hb)
 have sk := k4.size
 clear c0 c1 c2 c3 k4 hb
 have F2 := hi9 (nn.mono (B2 := w.heap.size) sk)
 clear nn sk
 go_upto_region 9 with fail
 obtain ⟨v6, hv⟩ : ∃ v, v = w5.alloc (.cells #[.bool y0, .slice y1 y2 y3] 25) := ⟨_, rfl⟩
 rw [← hv]
 have bn : Blk v6 w5.heap.size 25 [.bool y0, .slice y1 y2 y3] := by rw [hv]; exact Blk.new_ rfl
 have jn : Below w5.heap.size w5 v6 := by rw [hv]; exact bel_one _ _
 obtain ⟨gd, hg⟩ : ∃ g, g = w5.heap.size := ⟨_, rfl⟩
 rw [← hg] at bn ⊢
 clear hg hv
 have Hd := hi9 bn
 clear bn
 have k6 := bst k5 jn nl9
 replace H0 := hi9 (H0.out.below jn H0.out.lt)
 replace R0 := hi9 (R0.out.below jn R0.out.lt)
 replace F9 := hi9 (F9.out.next jn)
 replace F2 := hi9 (F2.out.next jn)
 replace Hn := hi9 (Hn.out.below jn Hn.out.lt)
 replace F1 := hi9 (F1.out.next jn)
 clear jn k5
 have rgt : w.heap.size ≤ w.heap.size + 1 := Nat.le_succ _
 obtain ⟨d0, d1, -, -⟩ := Hn.out.two
 obtain ⟨f0, f1, -, -⟩ := Hd.out.two
 obtain ⟨u0, u1, u2, u3, i0, i1, i2, i3⟩ := R0.out.four
 rcases E1.out with ⟨f, rfl⟩ | ⟨f, rfl⟩
 ·rcases E2.out with ⟨g, rfl⟩ | ⟨g, rfl⟩
  ·obtain rfl := V1.out ⟨f, g⟩
   obtain rfl := V2.out ⟨f, g⟩
   obtain rfl := V3.out.1 ⟨f, g⟩
   have GG : Hid (FN v6 w.heap.size (.bool x0) (.slice x1 x2 x3) (.bool y0) (.slice y1 y2 y3) _ _) := hi9 ⟨F1.out, F2.out⟩
   clear f g V1 V2 V3 E1 E2 P1 P2
   go_wp2_with fail
   exact rb_ret k6 R0.out rgt GG.out rfl rfl rfl rfl
  ·obtain ⟨rfl, rfl, rfl⟩ := V3.out.2 (fun h => g h.2)
   clear f g V1 V2 V3 E1 E2 P1 P2
   go_wp2_with fail
   exact rb_ret k6 R0.out rgt FN.zero rfl rfl rfl rfl
 ·obtain ⟨rfl, rfl, rfl⟩ := V3.out.2 (fun h => f h.1)
  clear f V1 V2 V3 E1 E2 P1 P2
  go_wp2_with fail
  exact rb_ret k6 R0.out rgt FN.zero rfl rfl rfl rfl
end
end
section
open Go.RowKit
theorem re_to {w : World} {P : FuncId} {aa : Array Value} {q r : Rat} {er : Int} (h : Calls Tryz.prog P aa w fun e w' => RE w w' q.num q.den er e) (e9 : q = r) : Calls Tryz.prog P aa w fun e w' => RE w w' r.num r.den er e := e9 ▸ h
theorem ro_to {w : World} {P : FuncId} {aa : Array Value} {q r : Rat} (h : Calls Tryz.prog P aa w fun e w' => RO w w' q.num q.den e) (e9 : q = r) : Calls Tryz.prog P aa w fun e w' => RO w w' r.num r.den e := e9 ▸ h
theorem min_wrap : wrap64 9223372036854775808 = -9223372036854775808 := by unfold wrap64; decide
section
variable {w : World} {B : Nat} {K : Nat} {z n9 m9 : Int} {q r9 : Rat} {a0 a4 : Bool} {a1 a5 : Option Addr} {a2 a3 a6 a7 : Nat}
set_option maxHeartbeats 12800000 in
set_option maxRecDepth 20000 in
theorem qpow_neg (h : QV B w (.bool a0) (.slice a1 a2 a3) (.bool a4) (.slice a5 a6 a7) q K) (hK1 : 1 ≤ K) (hK : K ≤ 2097152) (hT : Tb w) (hq : q ≠ 0) (h3 : T3 w) (k : Int) (n : Nat) (hn0 : 0 < n) (hn : n < 9223372036854775808) (hkn : k = -(n : Int)) (hk : PwK q.num.natAbs n ∧ PwK q.den n) : Calls Tryz.prog 42 #[.agg #[.bool a0, .slice a1 a2 a3, .bool a4, .slice a5 a6 a7], .int .i64 k] w fun e w' => RE w w' (pwN q⁻¹ n) (pwD q⁻¹ n) (pwE q⁻¹ n) e := by
 have HA := hi9 h
 have HQ := hi9 h.qb
 have HT := hi9 hT
 have TT := hi9 h3
 replace hk := inv_pwk hq hk
 have qk := h.qb.inv hq
 obtain ⟨r, hr⟩ : ∃ r, r = q⁻¹ := ⟨_, rfl⟩
 rw [← hr] at hk qk ⊢
 have HR := hi9 hr.symm
 have HZ := hi9 hq
 have QK := hi9 qk
 have t1 : decide (k < 0) = true := decide_eq_true (by omega)
 have u3 : wrap64 (n : Int) = (n : Int) := IntWalk.wrap64_in _ (by omega)
 have w0 : wrap64 (-k) = (n : Int) := by rw [show -k = (n : Int) by omega]; exact u3
 have w0b : -k = (n : Int) := by omega
 have t2 : (k == -9223372036854775808) = false := beq_eq_false_iff_ne.2 (by omega)
 obtain ⟨N9, hN9⟩ : ∃ v, v = pwN r n := ⟨_, rfl⟩
 obtain ⟨D9, hD9⟩ : ∃ v, v = pwD r n := ⟨_, rfl⟩
 obtain ⟨G9, hG9⟩ : ∃ v, v = pwE r n := ⟨_, rfl⟩
 rw [← hN9, ← hD9, ← hG9]
 obtain ⟨vN, hvN⟩ : ∃ v, v = powV r.num n := ⟨_, rfl⟩
 obtain ⟨vD, hvD⟩ : ∃ v, v = powV (r.den : Int) n := ⟨_, rfl⟩
 obtain ⟨eN, heN⟩ : ∃ v : Int, v = powE r.num n := ⟨_, rfl⟩
 obtain ⟨eD, heD⟩ : ∃ v : Int, v = powE (r.den : Int) n := ⟨_, rfl⟩
 have P1 : Hid (∀ {p p2 : Value} {B9 : Nat} (W : World) (hW : Below w.heap.size w W) (_ : IV B9 W p p2 r.num K), Calls Tryz.prog 91 #[.agg #[p, p2], .int .i64 (n : Int)] W fun e w' => IE W w' vN eN e) := by
  show ∀ {p p2 : Value} {B9 : Nat} (W : World) (hW : Below w.heap.size w W) (_ : IV B9 W p p2 r.num K), Calls Tryz.prog 91 #[.agg #[p, p2], .int .i64 (n : Int)] W fun e w' => IE W w' vN eN e
  intro p p2 B9 W hW hi
  rw [hvN, heN]
  exact hi.zpow (by omega) n hn hk.1 (TT.out.next hW)
 have P2 : Hid (∀ {p p2 : Value} {B9 : Nat} (W : World) (hW : Below w.heap.size w W) (_ : IV B9 W p p2 (r.den : Int) K), Calls Tryz.prog 91 #[.agg #[p, p2], .int .i64 (n : Int)] W fun e w' => IE W w' vD eD e) := by
  show ∀ {p p2 : Value} {B9 : Nat} (W : World) (hW : Below w.heap.size w W) (_ : IV B9 W p p2 (r.den : Int) K), Calls Tryz.prog 91 #[.agg #[p, p2], .int .i64 (n : Int)] W fun e w' => IE W w' vD eD e
  intro p p2 B9 W hW hi
  rw [hvD, heD]
  exact hi.zpow (by omega) n hn hk.2 (TT.out.next hW)
 have E1 : Hid ((PwS r.num.natAbs n ∧ eN = 0) ∨ (¬ PwS r.num.natAbs n ∧ eN = 4)) := by
  show _ ∨ _
  by_cases h : PwS r.num.natAbs n
  ·exact Or.inl ⟨h, heN.trans (if_pos h)⟩
  ·exact Or.inr ⟨h, heN.trans (if_neg h)⟩
 have E2 : Hid ((PwS r.den n ∧ eD = 0) ∨ (¬ PwS r.den n ∧ eD = 4)) := by
  show _ ∨ _
  by_cases h : PwS r.den n
  ·exact Or.inl ⟨h, heD.trans (if_pos h)⟩
  ·exact Or.inr ⟨h, heD.trans (if_neg h)⟩
 have V1 : Hid (Fit r n → N9 = vN) := fun h => hN9.trans ((if_pos h).trans ((hvN.trans (if_pos h.1)).symm))
 have V2 : Hid (Fit r n → D9 = vD) := fun h => hD9.trans ((if_pos h).trans ((hvD.trans (if_pos h.2)).symm))
 have V3 : Hid ((Fit r n → G9 = 0) ∧ (¬ Fit r n → N9 = 0 ∧ D9 = 0 ∧ G9 = 4)) := ⟨fun h => hG9.trans (if_pos h), fun h => ⟨hN9.trans (if_neg h), hD9.trans (if_neg h), hG9.trans (if_neg h)⟩⟩
 clear hN9 hD9 hG9
 clear hvN hvD heN heD hk hn
 clear h hr hq qk hkn hn0 hT h3
 obtain ⟨b0', r0'⟩ := blk_rr w (.bool a0) (.slice a1 a2 a3) (.bool a4) (.slice a5 a6 a7) (.bool false) (.slice none 0 0) (.bool false) (.slice none 0 0)
 have k0 := bel_two w (.cells #[.bool a0, .slice a1 a2 a3, .bool a4, .slice a5 a6 a7] 27) (.cells #[.bool false, .slice none 0 0, .bool false, .slice none 0 0] 27)
 go_enter Tryz.func42, Tryz.ntmps42
 go_upto_region 1 with fail
 obtain ⟨w0, hw0⟩ : ∃ v, v = (w.alloc (.cells #[.bool a0, .slice a1 a2 a3, .bool a4, .slice a5 a6 a7] 27)).alloc (.cells #[.bool false, .slice none 0 0, .bool false, .slice none 0 0] 27) := ⟨_, rfl⟩
 rw [← hw0] at k0 b0' r0' ⊢
 clear hw0
 have H0 := hi9 b0'
 have R0 := hi9 r0'
 have n1 : w.heap.size + 1 ≠ w.heap.size := by omega
 clear b0' r0'
 obtain ⟨c0, c1, c2, c3, -, -, -, -⟩ := H0.out.four
 go_wp2_with fail
 refine (((HA.out.next k0).qnorm (by omega) (HT.out.next k0))).mono ?_
 rintro e w1 ⟨s0, s1, s2, s3, s4, s5, s6, s7, rfl, nn, hb⟩
 have k1 := bst k0 hb nl9
 replace H0 := hi9 (H0.out.below hb H0.out.lt)
 replace R0 := hi9 (R0.out.below hb R0.out.lt)
 have sk := k0.size
 clear c0 c1 c2 c3 k0 hb
 have nk := nn.mono (B2 := w.heap.size) sk
 obtain ⟨z0, z1, z2, z3, y0, y1, y2, y3⟩ := H0.out.four
 go_upto_region 2 with fail
 obtain ⟨v2, hv⟩ : ∃ V, V = set4 w1 w.heap.size (.bool s0) (.slice s1 s2 s3) (.bool s4) (.slice s5 s6 s7) := ⟨_, rfl⟩
 have hv2 := hv
 unfold set4 at hv2
 rw [← hv2]
 have b2 : Blk v2 w.heap.size 27 [.bool s0, .slice s1 s2 s3, .bool s4, .slice s5 s6 s7] := by rw [hv]; exact set4_same H0.out
 have r2 : Blk v2 (w.heap.size + 1) 27 [.bool false, .slice none 0 0, .bool false, .slice none 0 0] := by rw [hv]; exact set4_far R0.out n1
 have k2 : Below w.heap.size w v2 := by rw [hv]; exact set4_below k1 nl9
 have F9 : Hid (FN v2 w.heap.size (.bool s0) (.slice s1 s2 s3) (.bool s4) (.slice s5 s6 s7) (q.num) ((q.den : Int))) := by show FN v2 w.heap.size (.bool s0) (.slice s1 s2 s3) (.bool s4) (.slice s5 s6 s7) (q.num) ((q.den : Int)); rw [hv]; exact fn4 nk H0.out
 replace H0 := hi9 b2
 replace R0 := hi9 r2
 clear hv hv2 z0 z1 z2 z3 y0 y1 y2 y3 b2 r2 nn nk sk k1
 obtain ⟨c0, c1, c2, c3, -, -, -, -⟩ := H0.out.four
 go_wp2_with fail
 refine ((re_to ((F9.out.qv (B2 := 0) HQ.out).qinv HZ.out (by omega) (by omega) (HT.out.next k2)) HR.out)).mono ?_
 rintro e w3 ⟨t0, t1, t2, t3, t4, t5, t6, t7, rfl, nn, hb⟩
 have k3 := bst k2 hb nl9
 replace H0 := hi9 (H0.out.below hb H0.out.lt)
 replace R0 := hi9 (R0.out.below hb R0.out.lt)
 replace F9 := hi9 (F9.out.next hb)
 have sk := k2.size
 clear c0 c1 c2 c3 k2 hb
 have nk := nn.mono (B2 := w.heap.size) sk
 obtain ⟨z0, z1, z2, z3, y0, y1, y2, y3⟩ := H0.out.four
 go_upto_region 10 with fail
 obtain ⟨v4, hv⟩ : ∃ V, V = set4 w3 w.heap.size (.bool t0) (.slice t1 t2 t3) (.bool t4) (.slice t5 t6 t7) := ⟨_, rfl⟩
 have hv2 := hv
 unfold set4 at hv2
 rw [← hv2]
 have b2 : Blk v4 w.heap.size 27 [.bool t0, .slice t1 t2 t3, .bool t4, .slice t5 t6 t7] := by rw [hv]; exact set4_same H0.out
 have r2 : Blk v4 (w.heap.size + 1) 27 [.bool false, .slice none 0 0, .bool false, .slice none 0 0] := by rw [hv]; exact set4_far R0.out n1
 have k4 : Below w.heap.size w v4 := by rw [hv]; exact set4_below k3 nl9
 have F8 : Hid (FN v4 w.heap.size (.bool t0) (.slice t1 t2 t3) (.bool t4) (.slice t5 t6 t7) (r.num) ((r.den : Int))) := by show FN v4 w.heap.size (.bool t0) (.slice t1 t2 t3) (.bool t4) (.slice t5 t6 t7) (r.num) ((r.den : Int)); rw [hv]; exact fn4 nk H0.out
 replace H0 := hi9 b2
 replace R0 := hi9 r2
 clear hv hv2 z0 z1 z2 z3 y0 y1 y2 y3 b2 r2 nn nk sk k3
 obtain ⟨c0, c1, c2, c3, -, -, -, -⟩ := H0.out.four
 clear F9
 go_wp2_with fail
 refine ((P1.out _ k4 (F8.out.num.iv (B2 := 0) QK.out.num))).mono ?_
 rintro e w5 ⟨x0, x1, x2, x3, rfl, nn, hb⟩
 have k5 := bst k4 hb nl9
 replace H0 := hi9 (H0.out.below hb H0.out.lt)
 replace R0 := hi9 (R0.out.below hb R0.out.lt)
 replace F8 := hi9 (F8.out.next hb)
 have sk := k4.size
 clear c0 c1 c2 c3 k4 hb
 have F1 := hi9 (nn.mono (B2 := w.heap.size) sk)
 clear nn sk
 go_upto_region 13 with fail
 obtain ⟨v6, hv⟩ : ∃ v, v = w5.alloc (.cells #[.bool x0, .slice x1 x2 x3] 25) := ⟨_, rfl⟩
 rw [← hv]
 have bn : Blk v6 w5.heap.size 25 [.bool x0, .slice x1 x2 x3] := by rw [hv]; exact Blk.new_ rfl
 have jn : Below w5.heap.size w5 v6 := by rw [hv]; exact bel_one _ _
 obtain ⟨gn, hg⟩ : ∃ g, g = w5.heap.size := ⟨_, rfl⟩
 rw [← hg] at bn ⊢
 clear hg hv
 have Hn := hi9 bn
 clear bn
 have k6 := bst k5 jn nl9
 replace H0 := hi9 (H0.out.below jn H0.out.lt)
 replace R0 := hi9 (R0.out.below jn R0.out.lt)
 replace F8 := hi9 (F8.out.next jn)
 replace F1 := hi9 (F1.out.next jn)
 clear jn k5
 obtain ⟨c0, c1, c2, c3, -, -, -, -⟩ := H0.out.four
 go_wp2_with fail
 refine (P2.out _ k6 (F8.out.den.iv (B2 := 0) (by rw [Int.natAbs_natCast]; exact QK.out.den))).mono ?_
 rintro e w7 ⟨y0, y1, y2, y3, rfl, nn, hb⟩
 have k7 := bst k6 hb nl9
 replace H0 := hi9 (H0.out.below hb H0.out.lt)
 replace R0 := hi9 (R0.out.below hb R0.out.lt)
 replace Hn := hi9 (Hn.out.below hb Hn.out.lt)
 replace F8 := hi9 (F8.out.next hb)
 replace F1 := hi9 (F1.out.next hb)
 have sk := k6.size
 clear c0 c1 c2 c3 k6 hb
 have F2 := hi9 (nn.mono (B2 := w.heap.size) sk)
 clear nn sk
 go_upto_region 14 with fail
 obtain ⟨v8, hv⟩ : ∃ v, v = w7.alloc (.cells #[.bool y0, .slice y1 y2 y3] 25) := ⟨_, rfl⟩
 rw [← hv]
 have bn : Blk v8 w7.heap.size 25 [.bool y0, .slice y1 y2 y3] := by rw [hv]; exact Blk.new_ rfl
 have jn : Below w7.heap.size w7 v8 := by rw [hv]; exact bel_one _ _
 obtain ⟨gd, hg⟩ : ∃ g, g = w7.heap.size := ⟨_, rfl⟩
 rw [← hg] at bn ⊢
 clear hg hv
 have Hd := hi9 bn
 clear bn
 have k8 := bst k7 jn nl9
 replace H0 := hi9 (H0.out.below jn H0.out.lt)
 replace R0 := hi9 (R0.out.below jn R0.out.lt)
 replace F8 := hi9 (F8.out.next jn)
 replace F2 := hi9 (F2.out.next jn)
 replace Hn := hi9 (Hn.out.below jn Hn.out.lt)
 replace F1 := hi9 (F1.out.next jn)
 clear jn k7
 have rgt : w.heap.size ≤ w.heap.size + 1 := Nat.le_succ _
 obtain ⟨d0, d1, -, -⟩ := Hn.out.two
 obtain ⟨f0, f1, -, -⟩ := Hd.out.two
 obtain ⟨u0, u1, u2, u3, i0, i1, i2, i3⟩ := R0.out.four
 rcases E1.out with ⟨f, rfl⟩ | ⟨f, rfl⟩
 ·rcases E2.out with ⟨g, rfl⟩ | ⟨g, rfl⟩
  ·obtain rfl := V1.out ⟨f, g⟩
   obtain rfl := V2.out ⟨f, g⟩
   obtain rfl := V3.out.1 ⟨f, g⟩
   have GG : Hid (FN v8 w.heap.size (.bool x0) (.slice x1 x2 x3) (.bool y0) (.slice y1 y2 y3) _ _) := hi9 ⟨F1.out, F2.out⟩
   clear f g V1 V2 V3 E1 E2 P1 P2
   go_wp2_with fail
   exact re_ret k8 R0.out rgt GG.out rfl rfl rfl rfl
  ·obtain ⟨rfl, rfl, rfl⟩ := V3.out.2 (fun h => g h.2)
   clear f g V1 V2 V3 E1 E2 P1 P2
   go_wp2_with fail
   exact re_ret k8 R0.out rgt FN.zero rfl rfl rfl rfl
 ·obtain ⟨rfl, rfl, rfl⟩ := V3.out.2 (fun h => f h.1)
  clear f V1 V2 V3 E1 E2 P1 P2
  go_wp2_with fail
  exact re_ret k8 R0.out rgt FN.zero rfl rfl rfl rfl
set_option maxHeartbeats 12800000 in
set_option maxRecDepth 20000 in
theorem rqpow_neg (h : QV B w (.bool a0) (.slice a1 a2 a3) (.bool a4) (.slice a5 a6 a7) q K) (hK1 : 1 ≤ K) (hK : K ≤ 2097152) (hq : q ≠ 0) (k : Int) (n : Nat) (hn0 : 0 < n) (hn : n < 9223372036854775808) (hkn : k = -(n : Int)) (hk : PwK q.num.natAbs n ∧ PwK q.den n) : Calls Tryz.prog 43 #[.agg #[.bool a0, .slice a1 a2 a3, .bool a4, .slice a5 a6 a7], .int .i64 k] w fun e w' => RB w w' (pwN q⁻¹ n) (pwD q⁻¹ n) (decide (Fit q⁻¹ n)) e := by
 have HA := hi9 h
 have HQ := hi9 h.qb
 replace hk := inv_pwk hq hk
 have qk := h.qb.inv hq
 obtain ⟨r, hr⟩ : ∃ r, r = q⁻¹ := ⟨_, rfl⟩
 rw [← hr] at hk qk ⊢
 have HR := hi9 hr.symm
 have HZ := hi9 hq
 have QK := hi9 qk
 have t1 : decide (k < 0) = true := decide_eq_true (by omega)
 have u3 : wrap64 (n : Int) = (n : Int) := IntWalk.wrap64_in _ (by omega)
 have w0 : wrap64 (-k) = (n : Int) := by rw [show -k = (n : Int) by omega]; exact u3
 have w0b : -k = (n : Int) := by omega
 have t3 : (k == (n : Int)) = false := beq_eq_false_iff_ne.2 (by omega)
 obtain ⟨N9, hN9⟩ : ∃ v, v = pwN r n := ⟨_, rfl⟩
 obtain ⟨D9, hD9⟩ : ∃ v, v = pwD r n := ⟨_, rfl⟩
 obtain ⟨G9, hG9⟩ : ∃ v, v = decide (Fit r n) := ⟨_, rfl⟩
 rw [← hN9, ← hD9, ← hG9]
 obtain ⟨vN, hvN⟩ : ∃ v, v = powV r.num n := ⟨_, rfl⟩
 obtain ⟨vD, hvD⟩ : ∃ v, v = powV (r.den : Int) n := ⟨_, rfl⟩
 obtain ⟨eN, heN⟩ : ∃ v : Bool, v = decide (PwS r.num.natAbs n) := ⟨_, rfl⟩
 obtain ⟨eD, heD⟩ : ∃ v : Bool, v = decide (PwS r.den n) := ⟨_, rfl⟩
 have P1 : Hid (∀ {p p2 : Value} {B9 : Nat} (W : World) (hW : Below w.heap.size w W) (_ : IV B9 W p p2 r.num K), Calls Tryz.prog 93 #[.agg #[p, p2], .int .i64 (n : Int)] W fun e w' => IB W w' vN eN e) := by
  show ∀ {p p2 : Value} {B9 : Nat} (W : World) (hW : Below w.heap.size w W) (_ : IV B9 W p p2 r.num K), Calls Tryz.prog 93 #[.agg #[p, p2], .int .i64 (n : Int)] W fun e w' => IB W w' vN eN e
  intro p p2 B9 W hW hi
  rw [hvN, heN]
  exact hi.rzpow (by omega) n hn hk.1
 have P2 : Hid (∀ {p p2 : Value} {B9 : Nat} (W : World) (hW : Below w.heap.size w W) (_ : IV B9 W p p2 (r.den : Int) K), Calls Tryz.prog 93 #[.agg #[p, p2], .int .i64 (n : Int)] W fun e w' => IB W w' vD eD e) := by
  show ∀ {p p2 : Value} {B9 : Nat} (W : World) (hW : Below w.heap.size w W) (_ : IV B9 W p p2 (r.den : Int) K), Calls Tryz.prog 93 #[.agg #[p, p2], .int .i64 (n : Int)] W fun e w' => IB W w' vD eD e
  intro p p2 B9 W hW hi
  rw [hvD, heD]
  exact (ib_to (hi.rzpow (by omega) n hn hk.2) rfl)
 have E1 : Hid ((PwS r.num.natAbs n ∧ eN = true) ∨ (¬ PwS r.num.natAbs n ∧ eN = false)) := by
  show _ ∨ _
  by_cases h : PwS r.num.natAbs n
  ·exact Or.inl ⟨h, heN.trans (decide_eq_true h)⟩
  ·exact Or.inr ⟨h, heN.trans (decide_eq_false h)⟩
 have E2 : Hid ((PwS r.den n ∧ eD = true) ∨ (¬ PwS r.den n ∧ eD = false)) := by
  show _ ∨ _
  by_cases h : PwS r.den n
  ·exact Or.inl ⟨h, heD.trans (decide_eq_true h)⟩
  ·exact Or.inr ⟨h, heD.trans (decide_eq_false h)⟩
 have V1 : Hid (Fit r n → N9 = vN) := fun h => hN9.trans ((if_pos h).trans ((hvN.trans (if_pos h.1)).symm))
 have V2 : Hid (Fit r n → D9 = vD) := fun h => hD9.trans ((if_pos h).trans ((hvD.trans (if_pos h.2)).symm))
 have V3 : Hid ((Fit r n → G9 = true) ∧ (¬ Fit r n → N9 = 0 ∧ D9 = 0 ∧ G9 = false)) := ⟨fun h => hG9.trans (decide_eq_true h), fun h => ⟨hN9.trans (if_neg h), hD9.trans (if_neg h), hG9.trans (decide_eq_false h)⟩⟩
 clear hN9 hD9 hG9
 clear hvN hvD heN heD hk hn
 clear h hr hq qk hkn hn0
 obtain ⟨b0', r0'⟩ := blk_rr w (.bool a0) (.slice a1 a2 a3) (.bool a4) (.slice a5 a6 a7) (.bool false) (.slice none 0 0) (.bool false) (.slice none 0 0)
 have k0 := bel_two w (.cells #[.bool a0, .slice a1 a2 a3, .bool a4, .slice a5 a6 a7] 27) (.cells #[.bool false, .slice none 0 0, .bool false, .slice none 0 0] 27)
 go_enter Tryz.func43, Tryz.ntmps43
 go_upto_region 1 with fail
 obtain ⟨w0, hw0⟩ : ∃ v, v = (w.alloc (.cells #[.bool a0, .slice a1 a2 a3, .bool a4, .slice a5 a6 a7] 27)).alloc (.cells #[.bool false, .slice none 0 0, .bool false, .slice none 0 0] 27) := ⟨_, rfl⟩
 rw [← hw0] at k0 b0' r0' ⊢
 clear hw0
 have H0 := hi9 b0'
 have R0 := hi9 r0'
 have n1 : w.heap.size + 1 ≠ w.heap.size := by omega
 clear b0' r0'
 obtain ⟨c0, c1, c2, c3, -, -, -, -⟩ := H0.out.four
 go_wp2_with fail
 refine (((HA.out.next k0).rqnorm (by omega))).mono ?_
 rintro e w1 ⟨s0, s1, s2, s3, s4, s5, s6, s7, rfl, nn, hb⟩
 have k1 := bst k0 hb nl9
 replace H0 := hi9 (H0.out.below hb H0.out.lt)
 replace R0 := hi9 (R0.out.below hb R0.out.lt)
 have sk := k0.size
 clear c0 c1 c2 c3 k0 hb
 have nk := nn.mono (B2 := w.heap.size) sk
 obtain ⟨z0, z1, z2, z3, y0, y1, y2, y3⟩ := H0.out.four
 go_upto_region 2 with fail
 obtain ⟨v2, hv⟩ : ∃ V, V = set4 w1 w.heap.size (.bool s0) (.slice s1 s2 s3) (.bool s4) (.slice s5 s6 s7) := ⟨_, rfl⟩
 have hv2 := hv
 unfold set4 at hv2
 rw [← hv2]
 have b2 : Blk v2 w.heap.size 27 [.bool s0, .slice s1 s2 s3, .bool s4, .slice s5 s6 s7] := by rw [hv]; exact set4_same H0.out
 have r2 : Blk v2 (w.heap.size + 1) 27 [.bool false, .slice none 0 0, .bool false, .slice none 0 0] := by rw [hv]; exact set4_far R0.out n1
 have k2 : Below w.heap.size w v2 := by rw [hv]; exact set4_below k1 nl9
 have F9 : Hid (FN v2 w.heap.size (.bool s0) (.slice s1 s2 s3) (.bool s4) (.slice s5 s6 s7) (q.num) ((q.den : Int))) := by show FN v2 w.heap.size (.bool s0) (.slice s1 s2 s3) (.bool s4) (.slice s5 s6 s7) (q.num) ((q.den : Int)); rw [hv]; exact fn4 nk H0.out
 replace H0 := hi9 b2
 replace R0 := hi9 r2
 clear hv hv2 z0 z1 z2 z3 y0 y1 y2 y3 b2 r2 nn nk sk k1
 obtain ⟨c0, c1, c2, c3, -, -, -, -⟩ := H0.out.four
 go_wp2_with fail
 refine ((ro_to ((F9.out.qv (B2 := 0) HQ.out).rqinv (by omega) HZ.out) HR.out)).mono ?_
 rintro e w3 ⟨t0, t1, t2, t3, t4, t5, t6, t7, rfl, nn, hb⟩
 have k3 := bst k2 hb nl9
 replace H0 := hi9 (H0.out.below hb H0.out.lt)
 replace R0 := hi9 (R0.out.below hb R0.out.lt)
 replace F9 := hi9 (F9.out.next hb)
 have sk := k2.size
 clear c0 c1 c2 c3 k2 hb
 have nk := nn.mono (B2 := w.heap.size) sk
 obtain ⟨z0, z1, z2, z3, y0, y1, y2, y3⟩ := H0.out.four
 go_upto_region 4 with fail
 obtain ⟨v4, hv⟩ : ∃ V, V = set4 w3 w.heap.size (.bool t0) (.slice t1 t2 t3) (.bool t4) (.slice t5 t6 t7) := ⟨_, rfl⟩
 have hv2 := hv
 unfold set4 at hv2
 rw [← hv2]
 have b2 : Blk v4 w.heap.size 27 [.bool t0, .slice t1 t2 t3, .bool t4, .slice t5 t6 t7] := by rw [hv]; exact set4_same H0.out
 have r2 : Blk v4 (w.heap.size + 1) 27 [.bool false, .slice none 0 0, .bool false, .slice none 0 0] := by rw [hv]; exact set4_far R0.out n1
 have k4 : Below w.heap.size w v4 := by rw [hv]; exact set4_below k3 nl9
 have F8 : Hid (FN v4 w.heap.size (.bool t0) (.slice t1 t2 t3) (.bool t4) (.slice t5 t6 t7) (r.num) ((r.den : Int))) := by show FN v4 w.heap.size (.bool t0) (.slice t1 t2 t3) (.bool t4) (.slice t5 t6 t7) (r.num) ((r.den : Int)); rw [hv]; exact fn4 nk H0.out
 replace H0 := hi9 b2
 replace R0 := hi9 r2
 clear hv hv2 z0 z1 z2 z3 y0 y1 y2 y3 b2 r2 nn nk sk k3
 obtain ⟨c0, c1, c2, c3, -, -, -, -⟩ := H0.out.four
 clear F9
 go_wp2_with fail
 refine ((P1.out _ k4 (F8.out.num.iv (B2 := 0) QK.out.num))).mono ?_
 rintro e w5 ⟨x0, x1, x2, x3, rfl, nn, hb⟩
 have k5 := bst k4 hb nl9
 replace H0 := hi9 (H0.out.below hb H0.out.lt)
 replace R0 := hi9 (R0.out.below hb R0.out.lt)
 replace F8 := hi9 (F8.out.next hb)
 have sk := k4.size
 clear c0 c1 c2 c3 k4 hb
 have F1 := hi9 (nn.mono (B2 := w.heap.size) sk)
 clear nn sk
 go_upto_region 8 with fail
 obtain ⟨v6, hv⟩ : ∃ v, v = w5.alloc (.cells #[.bool x0, .slice x1 x2 x3] 25) := ⟨_, rfl⟩
 rw [← hv]
 have bn : Blk v6 w5.heap.size 25 [.bool x0, .slice x1 x2 x3] := by rw [hv]; exact Blk.new_ rfl
 have jn : Below w5.heap.size w5 v6 := by rw [hv]; exact bel_one _ _
 obtain ⟨gn, hg⟩ : ∃ g, g = w5.heap.size := ⟨_, rfl⟩
 rw [← hg] at bn ⊢
 clear hg hv
 have Hn := hi9 bn
 clear bn
 have k6 := bst k5 jn nl9
 replace H0 := hi9 (H0.out.below jn H0.out.lt)
 replace R0 := hi9 (R0.out.below jn R0.out.lt)
 replace F8 := hi9 (F8.out.next jn)
 replace F1 := hi9 (F1.out.next jn)
 clear jn k5
 obtain ⟨c0, c1, c2, c3, -, -, -, -⟩ := H0.out.four
 go_wp2_with fail
 refine (P2.out _ k6 (F8.out.den.iv (B2 := 0) (by rw [Int.natAbs_natCast]; exact QK.out.den))).mono ?_
 rintro e w7 ⟨y0, y1, y2, y3, rfl, nn, hb⟩
 have k7 := bst k6 hb nl9
 replace H0 := hi9 (H0.out.below hb H0.out.lt)
 replace R0 := hi9 (R0.out.below hb R0.out.lt)
 replace Hn := hi9 (Hn.out.below hb Hn.out.lt)
 replace F8 := hi9 (F8.out.next hb)
 replace F1 := hi9 (F1.out.next hb)
 have sk := k6.size
 clear c0 c1 c2 c3 k6 hb
 have F2 := hi9 (nn.mono (B2 := w.heap.size) sk)
 clear nn sk
 go_upto_region 9 with fail
 obtain ⟨v8, hv⟩ : ∃ v, v = w7.alloc (.cells #[.bool y0, .slice y1 y2 y3] 25) := ⟨_, rfl⟩
 rw [← hv]
 have bn : Blk v8 w7.heap.size 25 [.bool y0, .slice y1 y2 y3] := by rw [hv]; exact Blk.new_ rfl
 have jn : Below w7.heap.size w7 v8 := by rw [hv]; exact bel_one _ _
 obtain ⟨gd, hg⟩ : ∃ g, g = w7.heap.size := ⟨_, rfl⟩
 rw [← hg] at bn ⊢
 clear hg hv
 have Hd := hi9 bn
 clear bn
 have k8 := bst k7 jn nl9
 replace H0 := hi9 (H0.out.below jn H0.out.lt)
 replace R0 := hi9 (R0.out.below jn R0.out.lt)
 replace F8 := hi9 (F8.out.next jn)
 replace F2 := hi9 (F2.out.next jn)
 replace Hn := hi9 (Hn.out.below jn Hn.out.lt)
 replace F1 := hi9 (F1.out.next jn)
 clear jn k7
 have rgt : w.heap.size ≤ w.heap.size + 1 := Nat.le_succ _
 obtain ⟨d0, d1, -, -⟩ := Hn.out.two
 obtain ⟨f0, f1, -, -⟩ := Hd.out.two
 obtain ⟨u0, u1, u2, u3, i0, i1, i2, i3⟩ := R0.out.four
 rcases E1.out with ⟨f, rfl⟩ | ⟨f, rfl⟩
 ·rcases E2.out with ⟨g, rfl⟩ | ⟨g, rfl⟩
  ·obtain rfl := V1.out ⟨f, g⟩
   obtain rfl := V2.out ⟨f, g⟩
   obtain rfl := V3.out.1 ⟨f, g⟩
   have GG : Hid (FN v8 w.heap.size (.bool x0) (.slice x1 x2 x3) (.bool y0) (.slice y1 y2 y3) _ _) := hi9 ⟨F1.out, F2.out⟩
   clear f g V1 V2 V3 E1 E2 P1 P2
   go_wp2_with fail
   exact rb_ret k8 R0.out rgt GG.out rfl rfl rfl rfl
  ·obtain ⟨rfl, rfl, rfl⟩ := V3.out.2 (fun h => g h.2)
   clear f g V1 V2 V3 E1 E2 P1 P2
   go_wp2_with fail
   exact rb_ret k8 R0.out rgt FN.zero rfl rfl rfl rfl
 ·obtain ⟨rfl, rfl, rfl⟩ := V3.out.2 (fun h => f h.1)
  clear f V1 V2 V3 E1 E2 P1 P2
  go_wp2_with fail
  exact rb_ret k8 R0.out rgt FN.zero rfl rfl rfl rfl
set_option maxHeartbeats 12800000 in
set_option maxRecDepth 20000 in
theorem qpow_neg0 (h : QV B w (.bool a0) (.slice a1 a2 a3) (.bool a4) (.slice a5 a6 a7) 0 K) (hK1 : 1 ≤ K) (hK : K ≤ 2097152) (hT : Tb w) (k : Int) (h1 : k < 0) (h2 : k ≠ -9223372036854775808) : Calls Tryz.prog 42 #[.agg #[.bool a0, .slice a1 a2 a3, .bool a4, .slice a5 a6 a7], .int .i64 k] w fun e w' => RE w w' 0 0 5 e := by
 have HA := hi9 h
 have HQ := hi9 h.qb
 have HT := hi9 hT
 have t1 : decide (k < 0) = true := decide_eq_true (by omega)
 have t2 : (k == -9223372036854775808) = false := beq_eq_false_iff_ne.2 (by omega)
 clear h hT h1 h2
 obtain ⟨b0', r0'⟩ := blk_rr w (.bool a0) (.slice a1 a2 a3) (.bool a4) (.slice a5 a6 a7) (.bool false) (.slice none 0 0) (.bool false) (.slice none 0 0)
 have k0 := bel_two w (.cells #[.bool a0, .slice a1 a2 a3, .bool a4, .slice a5 a6 a7] 27) (.cells #[.bool false, .slice none 0 0, .bool false, .slice none 0 0] 27)
 go_enter Tryz.func42, Tryz.ntmps42
 go_upto_region 1 with fail
 obtain ⟨w0, hw0⟩ : ∃ v, v = (w.alloc (.cells #[.bool a0, .slice a1 a2 a3, .bool a4, .slice a5 a6 a7] 27)).alloc (.cells #[.bool false, .slice none 0 0, .bool false, .slice none 0 0] 27) := ⟨_, rfl⟩
 rw [← hw0] at k0 b0' r0' ⊢
 clear hw0
 have H0 := hi9 b0'
 have R0 := hi9 r0'
 have n1 : w.heap.size + 1 ≠ w.heap.size := by omega
 clear b0' r0'
 obtain ⟨c0, c1, c2, c3, -, -, -, -⟩ := H0.out.four
 go_wp2_with fail
 refine (((HA.out.next k0).qnorm (by omega) (HT.out.next k0))).mono ?_
 rintro e w1 ⟨s0, s1, s2, s3, s4, s5, s6, s7, rfl, nn, hb⟩
 have k1 := bst k0 hb nl9
 replace H0 := hi9 (H0.out.below hb H0.out.lt)
 replace R0 := hi9 (R0.out.below hb R0.out.lt)
 have sk := k0.size
 clear c0 c1 c2 c3 k0 hb
 have nk := nn.mono (B2 := w.heap.size) sk
 obtain ⟨z0, z1, z2, z3, y0, y1, y2, y3⟩ := H0.out.four
 go_upto_region 2 with fail
 obtain ⟨v2, hv⟩ : ∃ V, V = set4 w1 w.heap.size (.bool s0) (.slice s1 s2 s3) (.bool s4) (.slice s5 s6 s7) := ⟨_, rfl⟩
 have hv2 := hv
 unfold set4 at hv2
 rw [← hv2]
 have b2 : Blk v2 w.heap.size 27 [.bool s0, .slice s1 s2 s3, .bool s4, .slice s5 s6 s7] := by rw [hv]; exact set4_same H0.out
 have r2 : Blk v2 (w.heap.size + 1) 27 [.bool false, .slice none 0 0, .bool false, .slice none 0 0] := by rw [hv]; exact set4_far R0.out n1
 have k2 : Below w.heap.size w v2 := by rw [hv]; exact set4_below k1 nl9
 have F9 : Hid (FN v2 w.heap.size (.bool s0) (.slice s1 s2 s3) (.bool s4) (.slice s5 s6 s7) ((0 : Rat).num) (((0 : Rat).den : Int))) := by show FN v2 w.heap.size (.bool s0) (.slice s1 s2 s3) (.bool s4) (.slice s5 s6 s7) ((0 : Rat).num) (((0 : Rat).den : Int)); rw [hv]; exact fn4 nk H0.out
 replace H0 := hi9 b2
 replace R0 := hi9 r2
 clear hv hv2 z0 z1 z2 z3 y0 y1 y2 y3 b2 r2 nn nk sk k1
 obtain ⟨c0, c1, c2, c3, -, -, -, -⟩ := H0.out.four
 go_wp2_with fail
 refine (((F9.out.qv (B2 := 0) HQ.out).inv0 (by omega) (by omega))).mono ?_
 rintro e w3 ⟨t0, t1, t2, t3, t4, t5, t6, t7, rfl, nn, hb⟩
 have k3 := bst k2 hb nl9
 replace H0 := hi9 (H0.out.below hb H0.out.lt)
 replace R0 := hi9 (R0.out.below hb R0.out.lt)
 replace F9 := hi9 (F9.out.next hb)
 have sk := k2.size
 clear c0 c1 c2 c3 k2 hb
 have nk := nn.mono (B2 := w.heap.size) sk
 obtain ⟨z0, z1, z2, z3, y0, y1, y2, y3⟩ := H0.out.four
 go_upto_region 10 with fail
 obtain ⟨v4, hv⟩ : ∃ V, V = set4 w3 w.heap.size (.bool t0) (.slice t1 t2 t3) (.bool t4) (.slice t5 t6 t7) := ⟨_, rfl⟩
 have hv2 := hv
 unfold set4 at hv2
 rw [← hv2]
 have b2 : Blk v4 w.heap.size 27 [.bool t0, .slice t1 t2 t3, .bool t4, .slice t5 t6 t7] := by rw [hv]; exact set4_same H0.out
 have r2 : Blk v4 (w.heap.size + 1) 27 [.bool false, .slice none 0 0, .bool false, .slice none 0 0] := by rw [hv]; exact set4_far R0.out n1
 have k4 : Below w.heap.size w v4 := by rw [hv]; exact set4_below k3 nl9
 have F8 : Hid (FN v4 w.heap.size (.bool t0) (.slice t1 t2 t3) (.bool t4) (.slice t5 t6 t7) (0) (0)) := by show FN v4 w.heap.size (.bool t0) (.slice t1 t2 t3) (.bool t4) (.slice t5 t6 t7) (0) (0); rw [hv]; exact fn4 nk H0.out
 replace H0 := hi9 b2
 replace R0 := hi9 r2
 clear hv hv2 z0 z1 z2 z3 y0 y1 y2 y3 b2 r2 nn nk sk k3
 obtain ⟨c0, c1, c2, c3, -, -, -, -⟩ := H0.out.four
 clear c0 c1 c2 c3
 have rgt : w.heap.size ≤ w.heap.size + 1 := Nat.le_succ _
 obtain ⟨u0, u1, u2, u3, i0, i1, i2, i3⟩ := R0.out.four
 go_wp2_with fail
 exact re_ret k4 R0.out rgt FN.zero rfl rfl rfl rfl
set_option maxHeartbeats 12800000 in
set_option maxRecDepth 20000 in
theorem fpow_bad (h : FV B w (.bool a0) (.slice a1 a2 a3) (.bool a4) (.slice a5 a6 a7) z 0 K) (hK1 : 1 ≤ K) (hK : K ≤ 2097152) (k : Int) : Calls Tryz.prog 42 #[.agg #[.bool a0, .slice a1 a2 a3, .bool a4, .slice a5 a6 a7], .int .i64 k] w fun e w' => RE w w' 0 0 6 e := by
 have HA := hi9 h
 clear h
 obtain ⟨b0', r0'⟩ := blk_rr w (.bool a0) (.slice a1 a2 a3) (.bool a4) (.slice a5 a6 a7) (.bool false) (.slice none 0 0) (.bool false) (.slice none 0 0)
 have k0 := bel_two w (.cells #[.bool a0, .slice a1 a2 a3, .bool a4, .slice a5 a6 a7] 27) (.cells #[.bool false, .slice none 0 0, .bool false, .slice none 0 0] 27)
 go_enter Tryz.func42, Tryz.ntmps42
 go_upto_region 1 with fail
 obtain ⟨w0, hw0⟩ : ∃ v, v = (w.alloc (.cells #[.bool a0, .slice a1 a2 a3, .bool a4, .slice a5 a6 a7] 27)).alloc (.cells #[.bool false, .slice none 0 0, .bool false, .slice none 0 0] 27) := ⟨_, rfl⟩
 rw [← hw0] at k0 b0' r0' ⊢
 clear hw0
 have H0 := hi9 b0'
 have R0 := hi9 r0'
 have n1 : w.heap.size + 1 ≠ w.heap.size := by omega
 clear b0' r0'
 obtain ⟨c0, c1, c2, c3, -, -, -, -⟩ := H0.out.four
 go_wp2_with fail
 refine ((HA.out.next k0 |>.norm_bad (by omega))).mono ?_
 rintro e w1 ⟨s0, s1, s2, s3, s4, s5, s6, s7, rfl, nn, hb⟩
 have k1 := bst k0 hb nl9
 replace H0 := hi9 (H0.out.below hb H0.out.lt)
 replace R0 := hi9 (R0.out.below hb R0.out.lt)
 have sk := k0.size
 clear c0 c1 c2 c3 k0 hb
 have nk := nn.mono (B2 := w.heap.size) sk
 obtain ⟨z0, z1, z2, z3, y0, y1, y2, y3⟩ := H0.out.four
 go_upto_region 2 with fail
 obtain ⟨v2, hv⟩ : ∃ V, V = set4 w1 w.heap.size (.bool s0) (.slice s1 s2 s3) (.bool s4) (.slice s5 s6 s7) := ⟨_, rfl⟩
 have hv2 := hv
 unfold set4 at hv2
 rw [← hv2]
 have b2 : Blk v2 w.heap.size 27 [.bool s0, .slice s1 s2 s3, .bool s4, .slice s5 s6 s7] := by rw [hv]; exact set4_same H0.out
 have r2 : Blk v2 (w.heap.size + 1) 27 [.bool false, .slice none 0 0, .bool false, .slice none 0 0] := by rw [hv]; exact set4_far R0.out n1
 have k2 : Below w.heap.size w v2 := by rw [hv]; exact set4_below k1 nl9
 have F9 : Hid (FN v2 w.heap.size (.bool s0) (.slice s1 s2 s3) (.bool s4) (.slice s5 s6 s7) (0) (0)) := by show FN v2 w.heap.size (.bool s0) (.slice s1 s2 s3) (.bool s4) (.slice s5 s6 s7) (0) (0); rw [hv]; exact fn4 nk H0.out
 replace H0 := hi9 b2
 replace R0 := hi9 r2
 clear hv hv2 z0 z1 z2 z3 y0 y1 y2 y3 b2 r2 nn nk sk k1
 obtain ⟨c0, c1, c2, c3, -, -, -, -⟩ := H0.out.four
 clear c0 c1 c2 c3
 have rgt : w.heap.size ≤ w.heap.size + 1 := Nat.le_succ _
 obtain ⟨u0, u1, u2, u3, i0, i1, i2, i3⟩ := R0.out.four
 go_wp2_with fail
 exact re_ret k2 R0.out rgt FN.zero rfl rfl rfl rfl
set_option maxHeartbeats 12800000 in
set_option maxRecDepth 20000 in
theorem qpow_min (h : QV B w (.bool a0) (.slice a1 a2 a3) (.bool a4) (.slice a5 a6 a7) q K) (hK1 : 1 ≤ K) (hK : K ≤ 2097152) (hT : Tb w) (hq : q ≠ 0) (h3 : T3 w) : Calls Tryz.prog 42 #[.agg #[.bool a0, .slice a1 a2 a3, .bool a4, .slice a5 a6 a7], .int .i64 (-9223372036854775808)] w fun e w' => RE w w' (pwN (q * q)⁻¹ 4611686018427387904) (pwD (q * q)⁻¹ 4611686018427387904) (pwE (q * q)⁻¹ 4611686018427387904) e := by
 have HA := hi9 h
 have HQ := hi9 h.qb
 have HT := hi9 hT
 have TT := hi9 h3
 have hk := min_pwk hq
 have hs0 := sq_ne hq
 have qs := h.qb.mul h.qb
 have qk := qs.inv hs0
 obtain ⟨s9, hs⟩ : ∃ s, s = q * q := ⟨_, rfl⟩
 rw [← hs] at hk qk hs0 qs ⊢
 obtain ⟨r, hr⟩ : ∃ r, r = s9⁻¹ := ⟨_, rfl⟩
 rw [← hr] at hk qk ⊢
 have HR := hi9 hr.symm
 have HS := hi9 hs.symm
 have HZ := hi9 hs0
 have HQS := hi9 qs
 have QK := hi9 qk
 have hn : (4611686018427387904 : Nat) < 9223372036854775808 := by decide
 obtain ⟨N9, hN9⟩ : ∃ v, v = pwN r 4611686018427387904 := ⟨_, rfl⟩
 obtain ⟨D9, hD9⟩ : ∃ v, v = pwD r 4611686018427387904 := ⟨_, rfl⟩
 obtain ⟨G9, hG9⟩ : ∃ v, v = pwE r 4611686018427387904 := ⟨_, rfl⟩
 rw [← hN9, ← hD9, ← hG9]
 obtain ⟨vN, hvN⟩ : ∃ v, v = powV r.num 4611686018427387904 := ⟨_, rfl⟩
 obtain ⟨vD, hvD⟩ : ∃ v, v = powV (r.den : Int) 4611686018427387904 := ⟨_, rfl⟩
 obtain ⟨eN, heN⟩ : ∃ v : Int, v = powE r.num 4611686018427387904 := ⟨_, rfl⟩
 obtain ⟨eD, heD⟩ : ∃ v : Int, v = powE (r.den : Int) 4611686018427387904 := ⟨_, rfl⟩
 have P1 : Hid (∀ {p p2 : Value} {B9 : Nat} (W : World) (hW : Below w.heap.size w W) (_ : IV B9 W p p2 r.num (K + K)), Calls Tryz.prog 91 #[.agg #[p, p2], .int .i64 (4611686018427387904 : Int)] W fun e w' => IE W w' vN eN e) := by
  show ∀ {p p2 : Value} {B9 : Nat} (W : World) (hW : Below w.heap.size w W) (_ : IV B9 W p p2 r.num (K + K)), Calls Tryz.prog 91 #[.agg #[p, p2], .int .i64 (4611686018427387904 : Int)] W fun e w' => IE W w' vN eN e
  intro p p2 B9 W hW hi
  rw [hvN, heN]
  exact hi.zpow (by omega) 4611686018427387904 hn hk.1 (TT.out.next hW)
 have P2 : Hid (∀ {p p2 : Value} {B9 : Nat} (W : World) (hW : Below w.heap.size w W) (_ : IV B9 W p p2 (r.den : Int) (K + K)), Calls Tryz.prog 91 #[.agg #[p, p2], .int .i64 (4611686018427387904 : Int)] W fun e w' => IE W w' vD eD e) := by
  show ∀ {p p2 : Value} {B9 : Nat} (W : World) (hW : Below w.heap.size w W) (_ : IV B9 W p p2 (r.den : Int) (K + K)), Calls Tryz.prog 91 #[.agg #[p, p2], .int .i64 (4611686018427387904 : Int)] W fun e w' => IE W w' vD eD e
  intro p p2 B9 W hW hi
  rw [hvD, heD]
  exact hi.zpow (by omega) 4611686018427387904 hn hk.2 (TT.out.next hW)
 have E1 : Hid ((PwS r.num.natAbs 4611686018427387904 ∧ eN = 0) ∨ (¬ PwS r.num.natAbs 4611686018427387904 ∧ eN = 4)) := by
  show _ ∨ _
  by_cases h : PwS r.num.natAbs 4611686018427387904
  ·exact Or.inl ⟨h, heN.trans (if_pos h)⟩
  ·exact Or.inr ⟨h, heN.trans (if_neg h)⟩
 have E2 : Hid ((PwS r.den 4611686018427387904 ∧ eD = 0) ∨ (¬ PwS r.den 4611686018427387904 ∧ eD = 4)) := by
  show _ ∨ _
  by_cases h : PwS r.den 4611686018427387904
  ·exact Or.inl ⟨h, heD.trans (if_pos h)⟩
  ·exact Or.inr ⟨h, heD.trans (if_neg h)⟩
 have V1 : Hid (Fit r 4611686018427387904 → N9 = vN) := fun h => hN9.trans ((if_pos h).trans ((hvN.trans (if_pos h.1)).symm))
 have V2 : Hid (Fit r 4611686018427387904 → D9 = vD) := fun h => hD9.trans ((if_pos h).trans ((hvD.trans (if_pos h.2)).symm))
 have V3 : Hid ((Fit r 4611686018427387904 → G9 = 0) ∧ (¬ Fit r 4611686018427387904 → N9 = 0 ∧ D9 = 0 ∧ G9 = 4)) := ⟨fun h => hG9.trans (if_pos h), fun h => ⟨hN9.trans (if_neg h), hD9.trans (if_neg h), hG9.trans (if_neg h)⟩⟩
 clear hN9 hD9 hG9
 clear hvN hvD heN heD hk hn
 clear h hr hs hs0 qs hq qk hT h3
 obtain ⟨b0', r0'⟩ := blk_rr w (.bool a0) (.slice a1 a2 a3) (.bool a4) (.slice a5 a6 a7) (.bool false) (.slice none 0 0) (.bool false) (.slice none 0 0)
 have k0 := bel_two w (.cells #[.bool a0, .slice a1 a2 a3, .bool a4, .slice a5 a6 a7] 27) (.cells #[.bool false, .slice none 0 0, .bool false, .slice none 0 0] 27)
 go_enter Tryz.func42, Tryz.ntmps42
 go_upto_region 1 with fail
 obtain ⟨w0, hw0⟩ : ∃ v, v = (w.alloc (.cells #[.bool a0, .slice a1 a2 a3, .bool a4, .slice a5 a6 a7] 27)).alloc (.cells #[.bool false, .slice none 0 0, .bool false, .slice none 0 0] 27) := ⟨_, rfl⟩
 rw [← hw0] at k0 b0' r0' ⊢
 clear hw0
 have H0 := hi9 b0'
 have R0 := hi9 r0'
 have n1 : w.heap.size + 1 ≠ w.heap.size := by omega
 clear b0' r0'
 obtain ⟨c0, c1, c2, c3, -, -, -, -⟩ := H0.out.four
 go_wp2_with fail
 refine (((HA.out.next k0).qnorm (by omega) (HT.out.next k0))).mono ?_
 rintro e w1 ⟨s0, s1, s2, s3, s4, s5, s6, s7, rfl, nn, hb⟩
 have k1 := bst k0 hb nl9
 replace H0 := hi9 (H0.out.below hb H0.out.lt)
 replace R0 := hi9 (R0.out.below hb R0.out.lt)
 have sk := k0.size
 clear c0 c1 c2 c3 k0 hb
 have nk := nn.mono (B2 := w.heap.size) sk
 obtain ⟨z0, z1, z2, z3, y0, y1, y2, y3⟩ := H0.out.four
 go_upto_region 2 with fail
 obtain ⟨v2, hv⟩ : ∃ V, V = set4 w1 w.heap.size (.bool s0) (.slice s1 s2 s3) (.bool s4) (.slice s5 s6 s7) := ⟨_, rfl⟩
 have hv2 := hv
 unfold set4 at hv2
 rw [← hv2]
 have b2 : Blk v2 w.heap.size 27 [.bool s0, .slice s1 s2 s3, .bool s4, .slice s5 s6 s7] := by rw [hv]; exact set4_same H0.out
 have r2 : Blk v2 (w.heap.size + 1) 27 [.bool false, .slice none 0 0, .bool false, .slice none 0 0] := by rw [hv]; exact set4_far R0.out n1
 have k2 : Below w.heap.size w v2 := by rw [hv]; exact set4_below k1 nl9
 have F9 : Hid (FN v2 w.heap.size (.bool s0) (.slice s1 s2 s3) (.bool s4) (.slice s5 s6 s7) (q.num) ((q.den : Int))) := by show FN v2 w.heap.size (.bool s0) (.slice s1 s2 s3) (.bool s4) (.slice s5 s6 s7) (q.num) ((q.den : Int)); rw [hv]; exact fn4 nk H0.out
 replace H0 := hi9 b2
 replace R0 := hi9 r2
 clear hv hv2 z0 z1 z2 z3 y0 y1 y2 y3 b2 r2 nn nk sk k1
 obtain ⟨c0, c1, c2, c3, -, -, -, -⟩ := H0.out.four
 go_wp2_with fail
 refine ((re_to ((F9.out.qv (B2 := 0) HQ.out).qmul (F9.out.qv (B2 := 0) HQ.out) (by omega) (HT.out.next k2)) HS.out)).mono ?_
 rintro e w3 ⟨p0, p1, p2, p3, p4, p5, p6, p7, rfl, nn, hb⟩
 have k3 := bst k2 hb nl9
 replace H0 := hi9 (H0.out.below hb H0.out.lt)
 replace R0 := hi9 (R0.out.below hb R0.out.lt)
 replace F9 := hi9 (F9.out.next hb)
 have sk := k2.size
 clear c0 c1 c2 c3 k2 hb
 have nk := nn.mono (B2 := w.heap.size) sk
 obtain ⟨z0, z1, z2, z3, y0, y1, y2, y3⟩ := H0.out.four
 go_upto_region 7 with fail
 obtain ⟨v4, hv⟩ : ∃ V, V = set4 w3 w.heap.size (.bool p0) (.slice p1 p2 p3) (.bool p4) (.slice p5 p6 p7) := ⟨_, rfl⟩
 have hv2 := hv
 unfold set4 at hv2
 rw [← hv2]
 have b2 : Blk v4 w.heap.size 27 [.bool p0, .slice p1 p2 p3, .bool p4, .slice p5 p6 p7] := by rw [hv]; exact set4_same H0.out
 have r2 : Blk v4 (w.heap.size + 1) 27 [.bool false, .slice none 0 0, .bool false, .slice none 0 0] := by rw [hv]; exact set4_far R0.out n1
 have k4 : Below w.heap.size w v4 := by rw [hv]; exact set4_below k3 nl9
 have F7 : Hid (FN v4 w.heap.size (.bool p0) (.slice p1 p2 p3) (.bool p4) (.slice p5 p6 p7) (s9.num) ((s9.den : Int))) := by show FN v4 w.heap.size (.bool p0) (.slice p1 p2 p3) (.bool p4) (.slice p5 p6 p7) (s9.num) ((s9.den : Int)); rw [hv]; exact fn4 nk H0.out
 replace H0 := hi9 b2
 replace R0 := hi9 r2
 clear hv hv2 z0 z1 z2 z3 y0 y1 y2 y3 b2 r2 nn nk sk k3
 obtain ⟨c0, c1, c2, c3, -, -, -, -⟩ := H0.out.four
 clear F9
 go_wp2_with fail
 refine ((re_to ((F7.out.qv (B2 := 0) HQS.out).qinv HZ.out (by omega) (by omega) (HT.out.next k4)) HR.out)).mono ?_
 rintro e w5 ⟨t0, t1, t2, t3, t4, t5, t6, t7, rfl, nn, hb⟩
 have k5 := bst k4 hb nl9
 replace H0 := hi9 (H0.out.below hb H0.out.lt)
 replace R0 := hi9 (R0.out.below hb R0.out.lt)
 replace F7 := hi9 (F7.out.next hb)
 have sk := k4.size
 clear c0 c1 c2 c3 k4 hb
 have nk := nn.mono (B2 := w.heap.size) sk
 obtain ⟨z0, z1, z2, z3, y0, y1, y2, y3⟩ := H0.out.four
 go_upto_region 10 with fail
 obtain ⟨v6, hv⟩ : ∃ V, V = set4 w5 w.heap.size (.bool t0) (.slice t1 t2 t3) (.bool t4) (.slice t5 t6 t7) := ⟨_, rfl⟩
 have hv2 := hv
 unfold set4 at hv2
 rw [← hv2]
 have b2 : Blk v6 w.heap.size 27 [.bool t0, .slice t1 t2 t3, .bool t4, .slice t5 t6 t7] := by rw [hv]; exact set4_same H0.out
 have r2 : Blk v6 (w.heap.size + 1) 27 [.bool false, .slice none 0 0, .bool false, .slice none 0 0] := by rw [hv]; exact set4_far R0.out n1
 have k6 : Below w.heap.size w v6 := by rw [hv]; exact set4_below k5 nl9
 have F8 : Hid (FN v6 w.heap.size (.bool t0) (.slice t1 t2 t3) (.bool t4) (.slice t5 t6 t7) (r.num) ((r.den : Int))) := by show FN v6 w.heap.size (.bool t0) (.slice t1 t2 t3) (.bool t4) (.slice t5 t6 t7) (r.num) ((r.den : Int)); rw [hv]; exact fn4 nk H0.out
 replace H0 := hi9 b2
 replace R0 := hi9 r2
 clear hv hv2 z0 z1 z2 z3 y0 y1 y2 y3 b2 r2 nn nk sk k5
 obtain ⟨c0, c1, c2, c3, -, -, -, -⟩ := H0.out.four
 clear F7
 go_wp2_with fail
 refine ((P1.out _ k6 (F8.out.num.iv (B2 := 0) QK.out.num))).mono ?_
 rintro e w7 ⟨x0, x1, x2, x3, rfl, nn, hb⟩
 have k7 := bst k6 hb nl9
 replace H0 := hi9 (H0.out.below hb H0.out.lt)
 replace R0 := hi9 (R0.out.below hb R0.out.lt)
 replace F8 := hi9 (F8.out.next hb)
 have sk := k6.size
 clear c0 c1 c2 c3 k6 hb
 have F1 := hi9 (nn.mono (B2 := w.heap.size) sk)
 clear nn sk
 go_upto_region 13 with fail
 obtain ⟨v8, hv⟩ : ∃ v, v = w7.alloc (.cells #[.bool x0, .slice x1 x2 x3] 25) := ⟨_, rfl⟩
 rw [← hv]
 have bn : Blk v8 w7.heap.size 25 [.bool x0, .slice x1 x2 x3] := by rw [hv]; exact Blk.new_ rfl
 have jn : Below w7.heap.size w7 v8 := by rw [hv]; exact bel_one _ _
 obtain ⟨gn, hg⟩ : ∃ g, g = w7.heap.size := ⟨_, rfl⟩
 rw [← hg] at bn ⊢
 clear hg hv
 have Hn := hi9 bn
 clear bn
 have k8 := bst k7 jn nl9
 replace H0 := hi9 (H0.out.below jn H0.out.lt)
 replace R0 := hi9 (R0.out.below jn R0.out.lt)
 replace F8 := hi9 (F8.out.next jn)
 replace F1 := hi9 (F1.out.next jn)
 clear jn k7
 obtain ⟨c0, c1, c2, c3, -, -, -, -⟩ := H0.out.four
 go_wp2_with fail
 refine (P2.out _ k8 (F8.out.den.iv (B2 := 0) (by rw [Int.natAbs_natCast]; exact QK.out.den))).mono ?_
 rintro e w9 ⟨y0, y1, y2, y3, rfl, nn, hb⟩
 have k9 := bst k8 hb nl9
 replace H0 := hi9 (H0.out.below hb H0.out.lt)
 replace R0 := hi9 (R0.out.below hb R0.out.lt)
 replace Hn := hi9 (Hn.out.below hb Hn.out.lt)
 replace F8 := hi9 (F8.out.next hb)
 replace F1 := hi9 (F1.out.next hb)
 have sk := k8.size
 clear c0 c1 c2 c3 k8 hb
 have F2 := hi9 (nn.mono (B2 := w.heap.size) sk)
 clear nn sk
 go_upto_region 14 with fail
 obtain ⟨v10, hv⟩ : ∃ v, v = w9.alloc (.cells #[.bool y0, .slice y1 y2 y3] 25) := ⟨_, rfl⟩
 rw [← hv]
 have bn : Blk v10 w9.heap.size 25 [.bool y0, .slice y1 y2 y3] := by rw [hv]; exact Blk.new_ rfl
 have jn : Below w9.heap.size w9 v10 := by rw [hv]; exact bel_one _ _
 obtain ⟨gd, hg⟩ : ∃ g, g = w9.heap.size := ⟨_, rfl⟩
 rw [← hg] at bn ⊢
 clear hg hv
 have Hd := hi9 bn
 clear bn
 have k10 := bst k9 jn nl9
 replace H0 := hi9 (H0.out.below jn H0.out.lt)
 replace R0 := hi9 (R0.out.below jn R0.out.lt)
 replace F8 := hi9 (F8.out.next jn)
 replace F2 := hi9 (F2.out.next jn)
 replace Hn := hi9 (Hn.out.below jn Hn.out.lt)
 replace F1 := hi9 (F1.out.next jn)
 clear jn k9
 have rgt : w.heap.size ≤ w.heap.size + 1 := Nat.le_succ _
 obtain ⟨d0, d1, -, -⟩ := Hn.out.two
 obtain ⟨f0, f1, -, -⟩ := Hd.out.two
 obtain ⟨u0, u1, u2, u3, i0, i1, i2, i3⟩ := R0.out.four
 rcases E1.out with ⟨f, rfl⟩ | ⟨f, rfl⟩
 ·rcases E2.out with ⟨g, rfl⟩ | ⟨g, rfl⟩
  ·obtain rfl := V1.out ⟨f, g⟩
   obtain rfl := V2.out ⟨f, g⟩
   obtain rfl := V3.out.1 ⟨f, g⟩
   have GG : Hid (FN v10 w.heap.size (.bool x0) (.slice x1 x2 x3) (.bool y0) (.slice y1 y2 y3) _ _) := hi9 ⟨F1.out, F2.out⟩
   clear f g V1 V2 V3 E1 E2 P1 P2
   go_wp2_with fail
   exact re_ret k10 R0.out rgt GG.out rfl rfl rfl rfl
  ·obtain ⟨rfl, rfl, rfl⟩ := V3.out.2 (fun h => g h.2)
   clear f g V1 V2 V3 E1 E2 P1 P2
   go_wp2_with fail
   exact re_ret k10 R0.out rgt FN.zero rfl rfl rfl rfl
 ·obtain ⟨rfl, rfl, rfl⟩ := V3.out.2 (fun h => f h.1)
  clear f V1 V2 V3 E1 E2 P1 P2
  go_wp2_with fail
  exact re_ret k10 R0.out rgt FN.zero rfl rfl rfl rfl
set_option maxHeartbeats 12800000 in
set_option maxRecDepth 20000 in
theorem qpow_min0 (h : QV B w (.bool a0) (.slice a1 a2 a3) (.bool a4) (.slice a5 a6 a7) 0 K) (hK1 : 1 ≤ K) (hK : K ≤ 2097152) (hT : Tb w) : Calls Tryz.prog 42 #[.agg #[.bool a0, .slice a1 a2 a3, .bool a4, .slice a5 a6 a7], .int .i64 (-9223372036854775808)] w fun e w' => RE w w' 0 0 5 e := by
 have HA := hi9 h
 have HQ := hi9 h.qb
 have HT := hi9 hT
 clear h hT
 obtain ⟨b0', r0'⟩ := blk_rr w (.bool a0) (.slice a1 a2 a3) (.bool a4) (.slice a5 a6 a7) (.bool false) (.slice none 0 0) (.bool false) (.slice none 0 0)
 have k0 := bel_two w (.cells #[.bool a0, .slice a1 a2 a3, .bool a4, .slice a5 a6 a7] 27) (.cells #[.bool false, .slice none 0 0, .bool false, .slice none 0 0] 27)
 go_enter Tryz.func42, Tryz.ntmps42
 go_upto_region 1 with fail
 obtain ⟨w0, hw0⟩ : ∃ v, v = (w.alloc (.cells #[.bool a0, .slice a1 a2 a3, .bool a4, .slice a5 a6 a7] 27)).alloc (.cells #[.bool false, .slice none 0 0, .bool false, .slice none 0 0] 27) := ⟨_, rfl⟩
 rw [← hw0] at k0 b0' r0' ⊢
 clear hw0
 have H0 := hi9 b0'
 have R0 := hi9 r0'
 have n1 : w.heap.size + 1 ≠ w.heap.size := by omega
 clear b0' r0'
 obtain ⟨c0, c1, c2, c3, -, -, -, -⟩ := H0.out.four
 go_wp2_with fail
 refine (((HA.out.next k0).qnorm (by omega) (HT.out.next k0))).mono ?_
 rintro e w1 ⟨s0, s1, s2, s3, s4, s5, s6, s7, rfl, nn, hb⟩
 have k1 := bst k0 hb nl9
 replace H0 := hi9 (H0.out.below hb H0.out.lt)
 replace R0 := hi9 (R0.out.below hb R0.out.lt)
 have sk := k0.size
 clear c0 c1 c2 c3 k0 hb
 have nk := nn.mono (B2 := w.heap.size) sk
 obtain ⟨z0, z1, z2, z3, y0, y1, y2, y3⟩ := H0.out.four
 go_upto_region 2 with fail
 obtain ⟨v2, hv⟩ : ∃ V, V = set4 w1 w.heap.size (.bool s0) (.slice s1 s2 s3) (.bool s4) (.slice s5 s6 s7) := ⟨_, rfl⟩
 have hv2 := hv
 unfold set4 at hv2
 rw [← hv2]
 have b2 : Blk v2 w.heap.size 27 [.bool s0, .slice s1 s2 s3, .bool s4, .slice s5 s6 s7] := by rw [hv]; exact set4_same H0.out
 have r2 : Blk v2 (w.heap.size + 1) 27 [.bool false, .slice none 0 0, .bool false, .slice none 0 0] := by rw [hv]; exact set4_far R0.out n1
 have k2 : Below w.heap.size w v2 := by rw [hv]; exact set4_below k1 nl9
 have F9 : Hid (FN v2 w.heap.size (.bool s0) (.slice s1 s2 s3) (.bool s4) (.slice s5 s6 s7) ((0 : Rat).num) (((0 : Rat).den : Int))) := by show FN v2 w.heap.size (.bool s0) (.slice s1 s2 s3) (.bool s4) (.slice s5 s6 s7) ((0 : Rat).num) (((0 : Rat).den : Int)); rw [hv]; exact fn4 nk H0.out
 replace H0 := hi9 b2
 replace R0 := hi9 r2
 clear hv hv2 z0 z1 z2 z3 y0 y1 y2 y3 b2 r2 nn nk sk k1
 obtain ⟨c0, c1, c2, c3, -, -, -, -⟩ := H0.out.four
 go_wp2_with fail
 refine ((re_to ((F9.out.qv (B2 := 0) HQ.out).qmul (F9.out.qv (B2 := 0) HQ.out) (by omega) (HT.out.next k2)) (Rat.zero_mul 0))).mono ?_
 rintro e w3 ⟨p0, p1, p2, p3, p4, p5, p6, p7, rfl, nn, hb⟩
 have k3 := bst k2 hb nl9
 replace H0 := hi9 (H0.out.below hb H0.out.lt)
 replace R0 := hi9 (R0.out.below hb R0.out.lt)
 replace F9 := hi9 (F9.out.next hb)
 have sk := k2.size
 clear c0 c1 c2 c3 k2 hb
 have nk := nn.mono (B2 := w.heap.size) sk
 obtain ⟨z0, z1, z2, z3, y0, y1, y2, y3⟩ := H0.out.four
 go_upto_region 7 with fail
 obtain ⟨v4, hv⟩ : ∃ V, V = set4 w3 w.heap.size (.bool p0) (.slice p1 p2 p3) (.bool p4) (.slice p5 p6 p7) := ⟨_, rfl⟩
 have hv2 := hv
 unfold set4 at hv2
 rw [← hv2]
 have b2 : Blk v4 w.heap.size 27 [.bool p0, .slice p1 p2 p3, .bool p4, .slice p5 p6 p7] := by rw [hv]; exact set4_same H0.out
 have r2 : Blk v4 (w.heap.size + 1) 27 [.bool false, .slice none 0 0, .bool false, .slice none 0 0] := by rw [hv]; exact set4_far R0.out n1
 have k4 : Below w.heap.size w v4 := by rw [hv]; exact set4_below k3 nl9
 have F7 : Hid (FN v4 w.heap.size (.bool p0) (.slice p1 p2 p3) (.bool p4) (.slice p5 p6 p7) ((0 : Rat).num) (((0 : Rat).den : Int))) := by show FN v4 w.heap.size (.bool p0) (.slice p1 p2 p3) (.bool p4) (.slice p5 p6 p7) ((0 : Rat).num) (((0 : Rat).den : Int)); rw [hv]; exact fn4 nk H0.out
 replace H0 := hi9 b2
 replace R0 := hi9 r2
 clear hv hv2 z0 z1 z2 z3 y0 y1 y2 y3 b2 r2 nn nk sk k3
 obtain ⟨c0, c1, c2, c3, -, -, -, -⟩ := H0.out.four
 clear F9
 go_wp2_with fail
 refine (((F7.out.qv (B2 := 0) HQ.out).inv0 (by omega) (by omega))).mono ?_
 rintro e w5 ⟨t0, t1, t2, t3, t4, t5, t6, t7, rfl, nn, hb⟩
 have k5 := bst k4 hb nl9
 replace H0 := hi9 (H0.out.below hb H0.out.lt)
 replace R0 := hi9 (R0.out.below hb R0.out.lt)
 replace F7 := hi9 (F7.out.next hb)
 have sk := k4.size
 clear c0 c1 c2 c3 k4 hb
 have nk := nn.mono (B2 := w.heap.size) sk
 obtain ⟨z0, z1, z2, z3, y0, y1, y2, y3⟩ := H0.out.four
 go_upto_region 10 with fail
 obtain ⟨v6, hv⟩ : ∃ V, V = set4 w5 w.heap.size (.bool t0) (.slice t1 t2 t3) (.bool t4) (.slice t5 t6 t7) := ⟨_, rfl⟩
 have hv2 := hv
 unfold set4 at hv2
 rw [← hv2]
 have b2 : Blk v6 w.heap.size 27 [.bool t0, .slice t1 t2 t3, .bool t4, .slice t5 t6 t7] := by rw [hv]; exact set4_same H0.out
 have r2 : Blk v6 (w.heap.size + 1) 27 [.bool false, .slice none 0 0, .bool false, .slice none 0 0] := by rw [hv]; exact set4_far R0.out n1
 have k6 : Below w.heap.size w v6 := by rw [hv]; exact set4_below k5 nl9
 have F8 : Hid (FN v6 w.heap.size (.bool t0) (.slice t1 t2 t3) (.bool t4) (.slice t5 t6 t7) (0) (0)) := by show FN v6 w.heap.size (.bool t0) (.slice t1 t2 t3) (.bool t4) (.slice t5 t6 t7) (0) (0); rw [hv]; exact fn4 nk H0.out
 replace H0 := hi9 b2
 replace R0 := hi9 r2
 clear hv hv2 z0 z1 z2 z3 y0 y1 y2 y3 b2 r2 nn nk sk k5
 obtain ⟨c0, c1, c2, c3, -, -, -, -⟩ := H0.out.four
 clear c0 c1 c2 c3
 have rgt : w.heap.size ≤ w.heap.size + 1 := Nat.le_succ _
 obtain ⟨u0, u1, u2, u3, i0, i1, i2, i3⟩ := R0.out.four
 go_wp2_with fail
 exact re_ret k6 R0.out rgt FN.zero rfl rfl rfl rfl
set_option maxHeartbeats 12800000 in
theorem one_yes (h : FV B w (.bool a0) (.slice a1 a2 a3) (.bool a4) (.slice a5 a6 a7) n9 m9 K) (hK : K ≤ 67108864) (h1 : bitsOf n9.natAbs = 1) (h2 : bitsOf m9.natAbs = 1) : Calls Tryz.prog 92 #[.agg #[.bool a0, .slice a1 a2 a3, .bool a4, .slice a5 a6 a7]] w fun e w' => RB w w' 1 1 true e := by
 have L1 : Hid (∀ W (_ : Below w.heap.size w W), Calls Tryz.prog 41 #[.slice a1 a2 a3] W fun e w' => e = .returned (.int .i64 (bitsOf n9.natAbs : Nat)) ∧ Below W.heap.size W w') := hi9 fun W hW => (h.num.next hW).rlen hK
 have L2 : Hid (∀ W (_ : Below w.heap.size w W), Calls Tryz.prog 41 #[.slice a5 a6 a7] W fun e w' => e = .returned (.int .i64 (bitsOf m9.natAbs : Nat)) ∧ Below W.heap.size W w') := hi9 fun W hW => (h.den.next hW).rlen hK
 obtain ⟨x1, hx1⟩ : ∃ x, x = bitsOf n9.natAbs := ⟨_, rfl⟩
 obtain ⟨x2, hx2⟩ : ∃ x, x = bitsOf m9.natAbs := ⟨_, rfl⟩
 rw [← hx1] at L1 h1
 rw [← hx2] at L2 h2
 have t1 : ((x1 : Int) == 1) = true := beq_iff_eq.2 (by omega)
 have t1b : (x1 == 1) = true := beq_iff_eq.2 h1
 have t2 : ((x2 : Int) == 1) = true := beq_iff_eq.2 (by omega)
 have t2b : (x2 == 1) = true := beq_iff_eq.2 h2
 clear h h1 hx1 hx2 h2
 obtain ⟨b0', r0'⟩ := blk_rr w (.bool a0) (.slice a1 a2 a3) (.bool a4) (.slice a5 a6 a7) (.bool false) (.slice none 0 0) (.bool false) (.slice none 0 0)
 have k0 := bel_two w (.cells #[.bool a0, .slice a1 a2 a3, .bool a4, .slice a5 a6 a7] 27) (.cells #[.bool false, .slice none 0 0, .bool false, .slice none 0 0] 27)
 go_enter Tryz.func92, Tryz.ntmps92
 go_upto_region 1 with fail
 obtain ⟨w0, hw0⟩ : ∃ v, v = (w.alloc (.cells #[.bool a0, .slice a1 a2 a3, .bool a4, .slice a5 a6 a7] 27)).alloc (.cells #[.bool false, .slice none 0 0, .bool false, .slice none 0 0] 27) := ⟨_, rfl⟩
 rw [← hw0] at k0 b0' r0' ⊢
 clear hw0
 have H0 := hi9 b0'
 have R0 := hi9 r0'
 have n1 : w.heap.size + 1 ≠ w.heap.size := by omega
 clear b0' r0'
 obtain ⟨c0, c1, c2, c3, -, -, -, -⟩ := H0.out.four
 go_wp2_with fail
 refine ((L1.out _ k0)).mono ?_
 rintro e w1 ⟨rfl, hb⟩
 have k1 := bst k0 hb nl9
 replace H0 := hi9 (H0.out.below hb H0.out.lt)
 replace R0 := hi9 (R0.out.below hb R0.out.lt)
 have sk := k0.size
 clear c0 c1 c2 c3 k0 hb
 obtain ⟨c0, c1, c2, c3, -, -, -, -⟩ := H0.out.four
 go_wp2_with fail
 refine ((L2.out _ k1)).mono ?_
 rintro e w2 ⟨rfl, hb⟩
 have k2 := bst k1 hb nl9
 replace H0 := hi9 (H0.out.below hb H0.out.lt)
 replace R0 := hi9 (R0.out.below hb R0.out.lt)
 have sk := k1.size
 clear c0 c1 c2 c3 k1 hb
 obtain ⟨c0, c1, c2, c3, -, -, -, -⟩ := H0.out.four
 go_wp2_with fail
 refine ((rof05_any 1 (by decide) (by decide))).mono ?_
 rintro e w3 ⟨t0, t1, t2, t3, t4, t5, t6, t7, rfl, nn, hb⟩
 have k3 := bst k2 hb nl9
 replace H0 := hi9 (H0.out.below hb H0.out.lt)
 replace R0 := hi9 (R0.out.below hb R0.out.lt)
 have sk := k2.size
 clear c0 c1 c2 c3 k2 hb
 have nk := nn.mono (B2 := w.heap.size) sk
 have rgt : w.heap.size ≤ w.heap.size + 1 := Nat.le_succ _
 obtain ⟨u0, u1, u2, u3, i0, i1, i2, i3⟩ := R0.out.four
 have NK := hi9 nk
 clear nn nk
 go_wp2_with fail
 exact rb_ret k3 R0.out rgt NK.out rfl rfl rfl rfl
set_option maxHeartbeats 12800000 in
theorem one_no2 (h : FV B w (.bool a0) (.slice a1 a2 a3) (.bool a4) (.slice a5 a6 a7) n9 m9 K) (hK : K ≤ 67108864) (h1 : bitsOf n9.natAbs = 1) (h2 : ¬ bitsOf m9.natAbs = 1) : Calls Tryz.prog 92 #[.agg #[.bool a0, .slice a1 a2 a3, .bool a4, .slice a5 a6 a7]] w fun e w' => RB w w' 0 0 false e := by
 have L1 : Hid (∀ W (_ : Below w.heap.size w W), Calls Tryz.prog 41 #[.slice a1 a2 a3] W fun e w' => e = .returned (.int .i64 (bitsOf n9.natAbs : Nat)) ∧ Below W.heap.size W w') := hi9 fun W hW => (h.num.next hW).rlen hK
 have L2 : Hid (∀ W (_ : Below w.heap.size w W), Calls Tryz.prog 41 #[.slice a5 a6 a7] W fun e w' => e = .returned (.int .i64 (bitsOf m9.natAbs : Nat)) ∧ Below W.heap.size W w') := hi9 fun W hW => (h.den.next hW).rlen hK
 obtain ⟨x1, hx1⟩ : ∃ x, x = bitsOf n9.natAbs := ⟨_, rfl⟩
 obtain ⟨x2, hx2⟩ : ∃ x, x = bitsOf m9.natAbs := ⟨_, rfl⟩
 rw [← hx1] at L1 h1
 rw [← hx2] at L2 h2
 have t1 : ((x1 : Int) == 1) = true := beq_iff_eq.2 (by omega)
 have t1b : (x1 == 1) = true := beq_iff_eq.2 h1
 have t2 : ((x2 : Int) == 1) = false := beq_eq_false_iff_ne.2 (by omega)
 have t2b : (x2 == 1) = false := beq_eq_false_iff_ne.2 h2
 clear h h1 hx1 hx2 h2
 obtain ⟨b0', r0'⟩ := blk_rr w (.bool a0) (.slice a1 a2 a3) (.bool a4) (.slice a5 a6 a7) (.bool false) (.slice none 0 0) (.bool false) (.slice none 0 0)
 have k0 := bel_two w (.cells #[.bool a0, .slice a1 a2 a3, .bool a4, .slice a5 a6 a7] 27) (.cells #[.bool false, .slice none 0 0, .bool false, .slice none 0 0] 27)
 go_enter Tryz.func92, Tryz.ntmps92
 go_upto_region 1 with fail
 obtain ⟨w0, hw0⟩ : ∃ v, v = (w.alloc (.cells #[.bool a0, .slice a1 a2 a3, .bool a4, .slice a5 a6 a7] 27)).alloc (.cells #[.bool false, .slice none 0 0, .bool false, .slice none 0 0] 27) := ⟨_, rfl⟩
 rw [← hw0] at k0 b0' r0' ⊢
 clear hw0
 have H0 := hi9 b0'
 have R0 := hi9 r0'
 have n1 : w.heap.size + 1 ≠ w.heap.size := by omega
 clear b0' r0'
 obtain ⟨c0, c1, c2, c3, -, -, -, -⟩ := H0.out.four
 go_wp2_with fail
 refine ((L1.out _ k0)).mono ?_
 rintro e w1 ⟨rfl, hb⟩
 have k1 := bst k0 hb nl9
 replace H0 := hi9 (H0.out.below hb H0.out.lt)
 replace R0 := hi9 (R0.out.below hb R0.out.lt)
 have sk := k0.size
 clear c0 c1 c2 c3 k0 hb
 obtain ⟨c0, c1, c2, c3, -, -, -, -⟩ := H0.out.four
 go_wp2_with fail
 refine ((L2.out _ k1)).mono ?_
 rintro e w2 ⟨rfl, hb⟩
 have k2 := bst k1 hb nl9
 replace H0 := hi9 (H0.out.below hb H0.out.lt)
 replace R0 := hi9 (R0.out.below hb R0.out.lt)
 have sk := k1.size
 clear c0 c1 c2 c3 k1 hb
 obtain ⟨c0, c1, c2, c3, -, -, -, -⟩ := H0.out.four
 clear c0 c1 c2 c3
 have rgt : w.heap.size ≤ w.heap.size + 1 := Nat.le_succ _
 obtain ⟨u0, u1, u2, u3, i0, i1, i2, i3⟩ := R0.out.four
 go_wp2_with fail
 exact rb_ret k2 R0.out rgt FN.zero rfl rfl rfl rfl
set_option maxHeartbeats 12800000 in
theorem one_no1 (h : FV B w (.bool a0) (.slice a1 a2 a3) (.bool a4) (.slice a5 a6 a7) n9 m9 K) (hK : K ≤ 67108864) (h1 : ¬ bitsOf n9.natAbs = 1) : Calls Tryz.prog 92 #[.agg #[.bool a0, .slice a1 a2 a3, .bool a4, .slice a5 a6 a7]] w fun e w' => RB w w' 0 0 false e := by
 have L1 : Hid (∀ W (_ : Below w.heap.size w W), Calls Tryz.prog 41 #[.slice a1 a2 a3] W fun e w' => e = .returned (.int .i64 (bitsOf n9.natAbs : Nat)) ∧ Below W.heap.size W w') := hi9 fun W hW => (h.num.next hW).rlen hK
 have L2 : Hid (∀ W (_ : Below w.heap.size w W), Calls Tryz.prog 41 #[.slice a5 a6 a7] W fun e w' => e = .returned (.int .i64 (bitsOf m9.natAbs : Nat)) ∧ Below W.heap.size W w') := hi9 fun W hW => (h.den.next hW).rlen hK
 obtain ⟨x1, hx1⟩ : ∃ x, x = bitsOf n9.natAbs := ⟨_, rfl⟩
 obtain ⟨x2, hx2⟩ : ∃ x, x = bitsOf m9.natAbs := ⟨_, rfl⟩
 rw [← hx1] at L1 h1
 rw [← hx2] at L2
 have t1 : ((x1 : Int) == 1) = false := beq_eq_false_iff_ne.2 (by omega)
 have t1b : (x1 == 1) = false := beq_eq_false_iff_ne.2 h1
 clear h h1 hx1 hx2
 obtain ⟨b0', r0'⟩ := blk_rr w (.bool a0) (.slice a1 a2 a3) (.bool a4) (.slice a5 a6 a7) (.bool false) (.slice none 0 0) (.bool false) (.slice none 0 0)
 have k0 := bel_two w (.cells #[.bool a0, .slice a1 a2 a3, .bool a4, .slice a5 a6 a7] 27) (.cells #[.bool false, .slice none 0 0, .bool false, .slice none 0 0] 27)
 go_enter Tryz.func92, Tryz.ntmps92
 go_upto_region 1 with fail
 obtain ⟨w0, hw0⟩ : ∃ v, v = (w.alloc (.cells #[.bool a0, .slice a1 a2 a3, .bool a4, .slice a5 a6 a7] 27)).alloc (.cells #[.bool false, .slice none 0 0, .bool false, .slice none 0 0] 27) := ⟨_, rfl⟩
 rw [← hw0] at k0 b0' r0' ⊢
 clear hw0
 have H0 := hi9 b0'
 have R0 := hi9 r0'
 have n1 : w.heap.size + 1 ≠ w.heap.size := by omega
 clear b0' r0'
 obtain ⟨c0, c1, c2, c3, -, -, -, -⟩ := H0.out.four
 go_wp2_with fail
 refine ((L1.out _ k0)).mono ?_
 rintro e w1 ⟨rfl, hb⟩
 have k1 := bst k0 hb nl9
 replace H0 := hi9 (H0.out.below hb H0.out.lt)
 replace R0 := hi9 (R0.out.below hb R0.out.lt)
 have sk := k0.size
 clear c0 c1 c2 c3 k0 hb
 obtain ⟨c0, c1, c2, c3, -, -, -, -⟩ := H0.out.four
 clear c0 c1 c2 c3
 have rgt : w.heap.size ≤ w.heap.size + 1 := Nat.le_succ _
 obtain ⟨u0, u1, u2, u3, i0, i1, i2, i3⟩ := R0.out.four
 go_wp2_with fail
 exact rb_ret k1 R0.out rgt FN.zero rfl rfl rfl rfl
theorem one_all (h : FV B w (.bool a0) (.slice a1 a2 a3) (.bool a4) (.slice a5 a6 a7) n9 m9 K) (hK : K ≤ 67108864) (v : Int) (ok : Bool) (hv : (bitsOf n9.natAbs = 1 ∧ bitsOf m9.natAbs = 1) ∧ v = 1 ∧ ok = true ∨ ¬ (bitsOf n9.natAbs = 1 ∧ bitsOf m9.natAbs = 1) ∧ v = 0 ∧ ok = false) : Calls Tryz.prog 92 #[.agg #[.bool a0, .slice a1 a2 a3, .bool a4, .slice a5 a6 a7]] w fun e w' => RB w w' v v ok e := by
 rcases hv with ⟨⟨h1, h2⟩, rfl, rfl⟩ | ⟨h1, rfl, rfl⟩
 ·exact one_yes h hK h1 h2
 ·by_cases h2 : bitsOf n9.natAbs = 1
  ·exact one_no2 h hK h2 (fun h3 => h1 ⟨h2, h3⟩)
  ·exact one_no1 h hK h2
set_option maxHeartbeats 12800000 in
set_option maxRecDepth 20000 in
theorem rqpow_min (h : QV B w (.bool a0) (.slice a1 a2 a3) (.bool a4) (.slice a5 a6 a7) q K) (hK1 : 1 ≤ K) (hK : K ≤ 2097152) (hq : q ≠ 0) : Calls Tryz.prog 43 #[.agg #[.bool a0, .slice a1 a2 a3, .bool a4, .slice a5 a6 a7], .int .i64 (-9223372036854775808)] w fun e w' => RB w w' (pwN (q * q)⁻¹ 4611686018427387904) (pwD (q * q)⁻¹ 4611686018427387904) (decide (Fit (q * q)⁻¹ 4611686018427387904)) e := by
 have HA := hi9 h
 have HQ := hi9 h.qb
 have w9 := min_wrap
 have qk := h.qb.inv hq
 have hv : ∃ v ok, pwN (q * q)⁻¹ 4611686018427387904 = v ∧ pwD (q * q)⁻¹ 4611686018427387904 = v ∧ decide (Fit (q * q)⁻¹ 4611686018427387904) = ok ∧ ((bitsOf (q⁻¹).num.natAbs = 1 ∧ bitsOf ((q⁻¹).den : Int).natAbs = 1) ∧ v = 1 ∧ ok = true ∨ ¬ (bitsOf (q⁻¹).num.natAbs = 1 ∧ bitsOf ((q⁻¹).den : Int).natAbs = 1) ∧ v = 0 ∧ ok = false) := by
  by_cases hf : Fit (q * q)⁻¹ 4611686018427387904
  ·have h9 := min_one hq hf
   exact ⟨1, true, h9.1, h9.2, decide_eq_true hf, Or.inl ⟨(fit_min hq).1 hf, rfl, rfl⟩⟩
  ·exact ⟨0, false, if_neg hf, if_neg hf, decide_eq_false hf, Or.inr ⟨fun e => hf ((fit_min hq).2 e), rfl, rfl⟩⟩
 obtain ⟨N9, G9, q1, q2, q3, hv⟩ := hv
 rw [q1, q2, q3]
 obtain ⟨r, hr⟩ : ∃ r, r = q⁻¹ := ⟨_, rfl⟩
 rw [← hr] at hv qk
 have HR := hi9 hr.symm
 have HZ := hi9 hq
 have QK := hi9 qk
 have HV := hi9 hv
 clear h hr hq qk hv q1 q2 q3
 obtain ⟨b0', r0'⟩ := blk_rr w (.bool a0) (.slice a1 a2 a3) (.bool a4) (.slice a5 a6 a7) (.bool false) (.slice none 0 0) (.bool false) (.slice none 0 0)
 have k0 := bel_two w (.cells #[.bool a0, .slice a1 a2 a3, .bool a4, .slice a5 a6 a7] 27) (.cells #[.bool false, .slice none 0 0, .bool false, .slice none 0 0] 27)
 go_enter Tryz.func43, Tryz.ntmps43
 go_upto_region 1 with fail
 obtain ⟨w0, hw0⟩ : ∃ v, v = (w.alloc (.cells #[.bool a0, .slice a1 a2 a3, .bool a4, .slice a5 a6 a7] 27)).alloc (.cells #[.bool false, .slice none 0 0, .bool false, .slice none 0 0] 27) := ⟨_, rfl⟩
 rw [← hw0] at k0 b0' r0' ⊢
 clear hw0
 have H0 := hi9 b0'
 have R0 := hi9 r0'
 have n1 : w.heap.size + 1 ≠ w.heap.size := by omega
 clear b0' r0'
 obtain ⟨c0, c1, c2, c3, -, -, -, -⟩ := H0.out.four
 go_wp2_with fail
 refine (((HA.out.next k0).rqnorm (by omega))).mono ?_
 rintro e w1 ⟨s0, s1, s2, s3, s4, s5, s6, s7, rfl, nn, hb⟩
 have k1 := bst k0 hb nl9
 replace H0 := hi9 (H0.out.below hb H0.out.lt)
 replace R0 := hi9 (R0.out.below hb R0.out.lt)
 have sk := k0.size
 clear c0 c1 c2 c3 k0 hb
 have nk := nn.mono (B2 := w.heap.size) sk
 obtain ⟨z0, z1, z2, z3, y0, y1, y2, y3⟩ := H0.out.four
 go_upto_region 2 with fail
 obtain ⟨v2, hv⟩ : ∃ V, V = set4 w1 w.heap.size (.bool s0) (.slice s1 s2 s3) (.bool s4) (.slice s5 s6 s7) := ⟨_, rfl⟩
 have hv2 := hv
 unfold set4 at hv2
 rw [← hv2]
 have b2 : Blk v2 w.heap.size 27 [.bool s0, .slice s1 s2 s3, .bool s4, .slice s5 s6 s7] := by rw [hv]; exact set4_same H0.out
 have r2 : Blk v2 (w.heap.size + 1) 27 [.bool false, .slice none 0 0, .bool false, .slice none 0 0] := by rw [hv]; exact set4_far R0.out n1
 have k2 : Below w.heap.size w v2 := by rw [hv]; exact set4_below k1 nl9
 have F9 : Hid (FN v2 w.heap.size (.bool s0) (.slice s1 s2 s3) (.bool s4) (.slice s5 s6 s7) (q.num) ((q.den : Int))) := by show FN v2 w.heap.size (.bool s0) (.slice s1 s2 s3) (.bool s4) (.slice s5 s6 s7) (q.num) ((q.den : Int)); rw [hv]; exact fn4 nk H0.out
 replace H0 := hi9 b2
 replace R0 := hi9 r2
 clear hv hv2 z0 z1 z2 z3 y0 y1 y2 y3 b2 r2 nn nk sk k1
 obtain ⟨c0, c1, c2, c3, -, -, -, -⟩ := H0.out.four
 go_wp2_with fail
 refine ((ro_to ((F9.out.qv (B2 := 0) HQ.out).rqinv (by omega) HZ.out) HR.out)).mono ?_
 rintro e w3 ⟨t0, t1, t2, t3, t4, t5, t6, t7, rfl, nn, hb⟩
 have k3 := bst k2 hb nl9
 replace H0 := hi9 (H0.out.below hb H0.out.lt)
 replace R0 := hi9 (R0.out.below hb R0.out.lt)
 replace F9 := hi9 (F9.out.next hb)
 have sk := k2.size
 clear c0 c1 c2 c3 k2 hb
 have nk := nn.mono (B2 := w.heap.size) sk
 obtain ⟨z0, z1, z2, z3, y0, y1, y2, y3⟩ := H0.out.four
 go_upto_region 4 with fail
 obtain ⟨v4, hv⟩ : ∃ V, V = set4 w3 w.heap.size (.bool t0) (.slice t1 t2 t3) (.bool t4) (.slice t5 t6 t7) := ⟨_, rfl⟩
 have hv2 := hv
 unfold set4 at hv2
 rw [← hv2]
 have b2 : Blk v4 w.heap.size 27 [.bool t0, .slice t1 t2 t3, .bool t4, .slice t5 t6 t7] := by rw [hv]; exact set4_same H0.out
 have r2 : Blk v4 (w.heap.size + 1) 27 [.bool false, .slice none 0 0, .bool false, .slice none 0 0] := by rw [hv]; exact set4_far R0.out n1
 have k4 : Below w.heap.size w v4 := by rw [hv]; exact set4_below k3 nl9
 have F8 : Hid (FN v4 w.heap.size (.bool t0) (.slice t1 t2 t3) (.bool t4) (.slice t5 t6 t7) (r.num) ((r.den : Int))) := by show FN v4 w.heap.size (.bool t0) (.slice t1 t2 t3) (.bool t4) (.slice t5 t6 t7) (r.num) ((r.den : Int)); rw [hv]; exact fn4 nk H0.out
 replace H0 := hi9 b2
 replace R0 := hi9 r2
 clear hv hv2 z0 z1 z2 z3 y0 y1 y2 y3 b2 r2 nn nk sk k3
 obtain ⟨c0, c1, c2, c3, -, -, -, -⟩ := H0.out.four
 clear F9
 go_wp2_with fail
 refine ((one_all ⟨F8.out.num.iv (B2 := 0) QK.out.num, F8.out.den.iv (B2 := 0) (by rw [Int.natAbs_natCast]; exact QK.out.den)⟩ (by omega) N9 G9 HV.out)).mono ?_
 rintro e w5 ⟨u0, u1, u2, u3, u4, u5, u6, u7, rfl, nn, hb⟩
 have k5 := bst k4 hb nl9
 replace H0 := hi9 (H0.out.below hb H0.out.lt)
 replace R0 := hi9 (R0.out.below hb R0.out.lt)
 replace F8 := hi9 (F8.out.next hb)
 have sk := k4.size
 clear c0 c1 c2 c3 k4 hb
 have nk := nn.mono (B2 := w.heap.size) sk
 have rgt : w.heap.size ≤ w.heap.size + 1 := Nat.le_succ _
 obtain ⟨v0, v1, v2, v3, i0, i1, i2, i3⟩ := R0.out.four
 have NK := hi9 nk
 clear nn nk
 go_wp2_with fail
 exact rb_ret k5 R0.out rgt NK.out rfl rfl rfl rfl
theorem qpow_all (h : QV B w (.bool a0) (.slice a1 a2 a3) (.bool a4) (.slice a5 a6 a7) q K) (hK1 : 1 ≤ K) (hK : K ≤ 2097152) (hT : Tb w) (h3 : T3 w) (k : Int) (h1 : -9223372036854775808 ≤ k) (h2 : k ≤ 9223372036854775807) (hq : q ≠ 0 ∨ 0 ≤ k) (hk : PwL q k) : Calls Tryz.prog 42 #[.agg #[.bool a0, .slice a1 a2 a3, .bool a4, .slice a5 a6 a7], .int .i64 k] w fun e w' => RE w w' (pwN (pwQ q k) (pwX k)) (pwD (pwQ q k) (pwX k)) (pwE (pwQ q k) (pwX k)) e := by
 unfold pwQ pwX
 by_cases hm : k = -9223372036854775808
 ·subst hm
  rw [if_pos rfl, if_pos rfl]
  exact qpow_min h hK1 hK hT (hq.resolve_right (by omega)) h3
 ·rw [if_neg hm, if_neg hm]
  by_cases h0 : k < 0
  ·rw [if_pos h0]
   exact qpow_neg h hK1 hK hT (hq.resolve_right (by omega)) h3 k k.natAbs (by omega) (by omega) (by omega) (hk hm)
  ·rw [if_neg h0]
   have := qpow_pos h hK1 hK hT h3 k.natAbs (by omega) (hk hm)
   rwa [show ((k.natAbs : Nat) : Int) = k by omega] at this
theorem rqpow_all (h : QV B w (.bool a0) (.slice a1 a2 a3) (.bool a4) (.slice a5 a6 a7) q K) (hK1 : 1 ≤ K) (hK : K ≤ 2097152) (k : Int) (h1 : -9223372036854775808 ≤ k) (h2 : k ≤ 9223372036854775807) (hq : q ≠ 0 ∨ 0 ≤ k) (hk : PwL q k) : Calls Tryz.prog 43 #[.agg #[.bool a0, .slice a1 a2 a3, .bool a4, .slice a5 a6 a7], .int .i64 k] w fun e w' => RB w w' (pwN (pwQ q k) (pwX k)) (pwD (pwQ q k) (pwX k)) (decide (Fit (pwQ q k) (pwX k))) e := by
 unfold pwQ pwX
 by_cases hm : k = -9223372036854775808
 ·subst hm
  rw [if_pos rfl, if_pos rfl]
  exact rqpow_min h hK1 hK (hq.resolve_right (by omega))
 ·rw [if_neg hm, if_neg hm]
  by_cases h0 : k < 0
  ·rw [if_pos h0]
   exact rqpow_neg h hK1 hK (hq.resolve_right (by omega)) k k.natAbs (by omega) (by omega) (by omega) (hk hm)
  ·rw [if_neg h0]
   have := rqpow_pos h hK1 hK k.natAbs (by omega) (hk hm)
   rwa [show ((k.natAbs : Nat) : Int) = k by omega] at this
theorem qpow_zero (h : QV B w (.bool a0) (.slice a1 a2 a3) (.bool a4) (.slice a5 a6 a7) 0 K) (hK1 : 1 ≤ K) (hK : K ≤ 2097152) (hT : Tb w) (k : Int) (h1 : k < 0) : Calls Tryz.prog 42 #[.agg #[.bool a0, .slice a1 a2 a3, .bool a4, .slice a5 a6 a7], .int .i64 k] w fun e w' => RE w w' 0 0 5 e := by
 by_cases hm : k = -9223372036854775808
 ·subst hm; exact qpow_min0 h hK1 hK hT
 ·exact qpow_neg0 h hK1 hK hT k h1 hm
end
end
end Go.Proofs.YtbcphifjcaobfaaGreatDoor
