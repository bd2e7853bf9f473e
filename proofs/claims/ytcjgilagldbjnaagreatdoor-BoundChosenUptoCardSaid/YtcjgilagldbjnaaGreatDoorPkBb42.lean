/- The contract of the reference's Left. The numbers behind the greatest common divisor. The contract of the reference's Gcd. The contracts of the reference's Norm, Of, Sign, Neg, Abs, M. The contract of zint.Mod: the number modulo a word that is n. -/
import Derived.Test.YtcjgilagldbjnaaGreatDoorPkBb41
import Derived.Test.YtcjgilagldbjnaaGreatDoorPkBb19
import Derived.Deep.RegionLaw
import Derived.Deep.RegionHeld3
import Derived.Deep.DeepCutAuto
import Derived.Test.YtcjgilagldbjnaaGreatDoorPkBb24
import Derived.Shelf.Spec.TrailingZeros
import Derived.Deep.LoopGhost
import Derived.Test.YtcjgilagldbjnaaGreatDoorPkBb28
import Derived.Test.YtcjgilagldbjnaaGreatDoorPkBb40
import Derived.Test.YtcjgilagldbjnaaGreatDoorPkBb21
namespace Go.Proofs.YtcjgilagldbjnaaGreatDoor
section
open Go.RowKit
end
section
open Go.RowKit
structure Leh (e : Bool) (x0 y0 x y u1 u2 v1 v2 : Nat) : Prop where
 le : y ≤ x
 comb : x0 = v2 * x + v1 * y
 uv : u2 ≤ v2
 sum : u1 + u2 ≤ v1 + v2
 v2p : 1 ≤ v2
 idx : if e then x + u1 * x0 = v1 * y0 else x + v1 * y0 = u1 * x0
 idy : if e then y + v2 * y0 = u2 * x0 else y + u2 * x0 = v2 * y0
 det : if e then u2 * v1 = u1 * v2 + 1 else u1 * v2 = u2 * v1 + 1
theorem Leh.start {x0 y0 : Nat} (h : y0 ≤ x0) : Leh false x0 y0 x0 y0 1 0 0 1 :=
 ⟨h, by omega, by omega, by omega, by omega, by simp, by simp, by simp⟩
theorem Leh.next {e : Bool} {x0 y0 x y u1 u2 v1 v2 : Nat} (h : Leh e x0 y0 x y u1 u2 v1 v2) (g1 : v2 ≤ y) : Leh (!e) x0 y0 y (x % y) u2 (u1 + x / y * u2) v2 (v1 + x / y * v2) := by
 have hy : 0 < y := Nat.lt_of_lt_of_le h.v2p g1
 have hq : 1 ≤ x / y := (Nat.le_div_iff_mul_le hy).2 (by rw [Nat.one_mul]; exact h.le)
 have hm := Nat.div_add_mod x y
 obtain ⟨le, comb, uv, sum, v2p, idx, idy, det⟩ := h
 generalize x / y = q at *
 obtain ⟨r, hr⟩ : ∃ r, r = x % y := ⟨_, rfl⟩
 have hrl : r < y := by rw [hr]; exact Nat.mod_lt _ hy
 rw [← hr] at hm ⊢
 clear hr
 obtain ⟨p, rfl⟩ : ∃ p, q = p + 1 := ⟨q - 1, by omega⟩
 have hpuv : p * u2 ≤ p * v2 := Nat.mul_le_mul_left _ uv
 refine ⟨Nat.le_of_lt hrl, ?_, ?_, ?_, ?_, ?_, ?_, ?_⟩
 ·subst hm; grind
 ·rw [Nat.add_mul, Nat.add_mul]; omega
 ·rw [Nat.add_mul, Nat.add_mul]; omega
 ·rw [Nat.add_mul]; omega
 ·cases e <;> simp only [Bool.not_true, Bool.not_false, if_true, Bool.false_eq_true, if_false] at idy ⊢ <;> exact idy
 ·subst hm
  cases e <;> simp only [Bool.not_true, Bool.not_false, if_true, Bool.false_eq_true, if_false] at idx idy ⊢ <;> grind
 ·cases e <;> simp only [Bool.not_true, Bool.not_false, if_true, Bool.false_eq_true, if_false] at det ⊢ <;> grind
end
section
open Go.RowKit
def Lv (w : World) (A : Option Addr) (ps : List Nat) (p LL : Nat) : Prop := Num 4294967296 ps p ∧ Rd w w.heap.size A (u32s ps) ∧ p < 4294967296 ^ LL
section
variable {w w' : World} {A : Option Addr} {ps : List Nat} {p LL : Nat}
theorem Lv.next (h : Lv w A ps p LL) (hb : Below w.heap.size w w') : Lv w' A ps p LL := ⟨h.1, (h.2.1.below hb).mono hb.size, h.2.2⟩
theorem Lv.len (h : Lv w A ps p LL) : ps.length ≤ LL := by
 have := trimL_len_le (b := 4294967296) (by omega) h.1.1 (by rw [h.1.2.2]; exact h.2.2)
 rwa [h.1.2.1] at this
theorem Lv.pos (h : Lv w A ps p LL) (h0 : 0 < p) : 0 < ps.length := by
 refine List.length_pos_iff.2 (fun e => ?_)
 have := (h.1.nil_iff (by omega)).1 e
 omega
theorem Lv.zero (h : Lv w A ps p LL) (h0 : p = 0) : ps = [] := (h.1.nil_iff (by omega)).2 h0
theorem Lv.cell (h : Lv w A ps p LL) (h0 : 0 < p) : ∃ b off x, A = some ⟨b, off, none⟩ ∧ w.cell? ⟨b, off, none⟩ = some (.int .u32 (x : Nat)) ∧ x % 2 = p % 2 ∧ x < 4294967296 := by
 have hl := h.pos h0
 obtain ⟨b, off, rfl, hb, hc⟩ := h.2.1 (by intro e; have := congrArg List.length e; rw [u32s_length] at this; simp at this; rw [this] at hl; simp at hl)
 have h1 := hc 0 _ (u32s_at hl)
 refine ⟨b, off, ps[0], rfl, h1, ?_, h.1.1.at_ 0 hl⟩
 have hv := h.1.2.2
 obtain ⟨y, ys, rfl⟩ : ∃ y ys, ps = y :: ys := by
  cases ps with
  | nil => simp at hl
  | cons y ys => exact ⟨y, ys, rfl⟩
 rw [← hv]
 simp only [val, List.getElem_cons_zero]
 omega
end
end
section
open Go.RowKit
section
variable {w w' : World} {g g2 : Bool} {A A2 : Option Addr} {c c2 K J : Nat} {xs ys : List Nat} {z y : Int}
set_option maxHeartbeats 1600000 in
theorem Zh.rnorm (h : Zh w g A c xs z K) (hK : K ≤ 67108864) :
  Calls Tryz.prog 50 #[.agg #[.bool g, .slice A xs.length c]] w fun e w' => ZOut w w' z e := by
 have N1 : Hid (∀ W (_ : Below w.heap.size w W), Calls Tryz.prog 13 #[.slice A xs.length c] W fun e w' => NOut W w' z.natAbs e) := fun W hW => (h.hv.next hW).rnorm hK
 have hs := h.sg
 have Hs := hi9 hs
 have k0 := bel_two w (.cells #[.bool g, .slice A xs.length c] 25) (.cells #[.bool false, .slice none 0 0] 25)
 have b0 := (Blk.new_ (w := w) (t := 25) (cs := #[.bool g, .slice A xs.length c]) (vs := [.bool g, .slice A xs.length c]) rfl).heapAlloc (.cells #[.bool false, .slice none 0 0] 25)
 have b1 := blk_res1 w (.cells #[.bool g, .slice A xs.length c] 25) (.bool false) (.slice none 0 0)
 clear h hs
 cases g
 ·have e9 : (false : Bool) = isNeg z := by rw [← Hs.out]; rw [isNeg_ival]; rfl
  have E9 := hi9 e9
  clear e9
  go_enter Tryz.func50, Tryz.ntmps50
  go_wp2_with fail
  refine (N1.out _ k0).mono ?_
  rintro e w1 ⟨zs, A', c', rfl, hz, hr, hb⟩
  have hsz := k0.size
  have k1 := bst k0 hb nl9
  replace b0 := b0.below hb b0.lt
  replace b1 := b1.below hb b1.lt
  obtain ⟨p0, p1, p2, p3⟩ := b0.two
  obtain ⟨q0, q1, q2, q3⟩ := b1.two
  go_wp2_with fail
  exact zretF k1 b1 (by omega) hz (hr.mono hsz) nl9 (fun hn a e => by
   obtain ⟨b, rest, e2, hb9, _, _⟩ := hr.2.2 (by intro e3; apply hn; have := u32s_length zs; rw [e3] at this; exact List.eq_nil_of_length_eq_zero this.symm)
   rw [e2] at e; cases e
   have : w.heap.size + 1 + 1 ≤ b := by simpa using hb9
   show b ≠ _; omega) E9.out rfl rfl rfl
 ·go_enter Tryz.func50, Tryz.ntmps50
  go_wp2_with fail
  refine (N1.out _ k0).mono ?_
  rintro e w1 ⟨zs, A', c', rfl, hz, hr, hb⟩
  have e9 : decide (0 < zs.length) = isNeg z := by
   rw [num_pos hz, ← Hs.out, isNeg_ival, Hs.out, Bool.true_and]
  have E9 := hi9 e9
  clear e9
  have hsz := k0.size
  have hl9 := res_len hr
  have k1 := bst k0 hb nl9
  replace b0 := b0.below hb b0.lt
  replace b1 := b1.below hb b1.lt
  obtain ⟨p0, p1, p2, p3⟩ := b0.two
  obtain ⟨q0, q1, q2, q3⟩ := b1.two
  go_wp2_with fail
  exact zretF k1 b1 (by omega) hz (hr.mono hsz) nl9 (fun hn a e => by
   obtain ⟨b, rest, e2, hb9, _, _⟩ := hr.2.2 (by intro e3; apply hn; have := u32s_length zs; rw [e3] at this; exact List.eq_nil_of_length_eq_zero this.symm)
   rw [e2] at e; cases e
   have : w.heap.size + 1 + 1 ≤ b := by simpa using hb9
   show b ≠ _; omega) E9.out rfl rfl rfl
theorem Zh.flip (h : Zh w g A c xs z K) : Zh w (!g) A c xs (-z) K :=
 ⟨⟨h.hv.dig, by rw [Int.natAbs_neg]; exact h.hv.val_, h.hv.rd, h.hv.cap, h.hv.len⟩, by rw [Int.natAbs_neg, ← neg_ival, h.sg]⟩
set_option maxHeartbeats 800000 in
theorem Zh.rneg (h : Zh w g A c xs z K) (hK : K ≤ 67108864) :
  Calls Tryz.prog 52 #[.agg #[.bool g, .slice A xs.length c]] w fun e w' => ZOut w w' (-z) e := by
 have N1 : Hid (∀ W (_ : Below w.heap.size w W), Calls Tryz.prog 50 #[.agg #[.bool (!g), .slice A xs.length c]] W fun e w' => ZOut W w' (-z) e) := fun W hW => (h.next hW).flip.rnorm hK
 have k0 := bel_two w (.cells #[.bool g, .slice A xs.length c] 25) (.cells #[.bool false, .slice none 0 0] 25)
 have b1 := blk_res1 w (.cells #[.bool g, .slice A xs.length c] 25) (.bool false) (.slice none 0 0)
 clear h
 go_enter Tryz.func52, Tryz.ntmps52
 go_wp2_with fail
 refine (N1.out _ k0).mono ?_
 rintro e w1 ⟨zs, A', c', rfl, hz, hr, hb⟩
 have hsz := k0.size
 have k1 := bst k0 hb nl9
 replace b1 := b1.below hb b1.lt
 obtain ⟨q0, q1, q2, q3⟩ := b1.two
 go_wp2_with fail
 exact zretT k1 b1 (by omega) hz (hr.mono hsz) rfl rfl rfl rfl
set_option maxHeartbeats 800000 in
theorem Zh.rabs (h : Zh w g A c xs z K) (hK : K ≤ 67108864) :
  Calls Tryz.prog 55 #[.agg #[.bool g, .slice A xs.length c]] w fun e w' => ZOut w w' (z.natAbs : Int) e := by
 have N1 : Hid (∀ W (_ : Below w.heap.size w W), Calls Tryz.prog 13 #[.slice A xs.length c] W fun e w' => NOut W w' z.natAbs e) := fun W hW => (h.next hW).hv.rnorm hK
 have k0 := bel_two w (.cells #[.bool g, .slice A xs.length c] 25) (.cells #[.bool false, .slice none 0 0] 25)
 have b1 := blk_res1 w (.cells #[.bool g, .slice A xs.length c] 25) (.bool false) (.slice none 0 0)
 clear h
 go_enter Tryz.func55, Tryz.ntmps55
 go_wp2_with fail
 refine (N1.out _ k0).mono ?_
 rintro e w1 ⟨zs, A', c', rfl, hz, hr, hb⟩
 have hsz := k0.size
 have k1 := bst k0 hb nl9
 replace b1 := b1.below hb b1.lt
 obtain ⟨q0, q1, q2, q3⟩ := b1.two
 go_wp2_with fail
 exact zretT (z := (z.natAbs : Int)) k1 b1 (by omega) (num_eq hz (by omega)) (hr.mono hsz) (by unfold isNeg; symm; exact decide_eq_false (by omega)) rfl rfl rfl
set_option maxHeartbeats 800000 in
theorem Zh.rsign (h : Zh w g A c xs z K) (hK : K ≤ 67108864) : Calls Tryz.prog 24 #[.agg #[.bool g, .slice A xs.length c]] w fun e w' => e = .returned (.int .i64 z.sign) ∧ Below w.heap.size w w' := by
 have Z1 : Hid (∀ W (_ : Below w.heap.size w W), Calls Tryz.prog 45 #[.slice A xs.length c] W fun e w' => e = .returned (.bool (decide (z.natAbs = 0))) ∧ W = w') := fun W hW => (h.next hW).hv.rzero hK
 have hs := h.sg
 have hd : decide (z.natAbs = 0) = decide (z = 0) := decide_eq_decide.2 (by omega)
 rw [hd] at Z1
 clear h hd
 have b0 := blk_one w (.bool g) (.slice A xs.length c)
 by_cases h0 : z = 0
 ·rw [decide_eq_true h0] at Z1
  rw [h0, show Int.sign 0 = 0 from rfl]
  clear hs h0
  go_enter Tryz.func24, Tryz.ntmps24
  go_wp2_with fail
  refine (Z1.out _ (bel_one _ _)).mono ?_
  rintro e w1 ⟨rfl, rfl⟩
  go_wp2_with fail
  go_ret
  exact ⟨rfl, bel_one _ _⟩
 ·have h1 := isNeg_ival g z.natAbs
  rw [hs, show decide (0 < z.natAbs) = true from decide_eq_true (by omega), Bool.and_true] at h1
  rw [decide_eq_false h0] at Z1
  cases g
  ·have e1 : z.sign = 1 := Int.sign_eq_one_of_pos (by simp [isNeg] at h1; omega)
   rw [e1]
   clear hs h0 h1 e1
   go_enter Tryz.func24, Tryz.ntmps24
   go_wp2_with fail
   refine (Z1.out _ (bel_one _ _)).mono ?_
   rintro e w1 ⟨rfl, rfl⟩
   go_wp2_with fail
   go_ret
   exact ⟨rfl, bel_one _ _⟩
  ·have e1 : z.sign = -1 := Int.sign_eq_neg_one_of_neg (by simp [isNeg] at h1; omega)
   rw [e1]
   clear hs h0 h1 e1
   go_enter Tryz.func24, Tryz.ntmps24
   go_wp2_with fail
   refine (Z1.out _ (bel_one _ _)).mono ?_
   rintro e w1 ⟨rfl, rfl⟩
   go_wp2_with fail
   go_ret
   exact ⟨rfl, bel_one _ _⟩
end
set_option maxHeartbeats 800000 in
theorem rzof_any (n : Int) (h1 : -9223372036854775808 ≤ n) (h2 : n ≤ 9223372036854775807) (w : World) : Calls Tryz.prog 16 #[.int .i64 n] w fun e w' => ZOut w w' n e := by
 have k0 := bel_one w (.cells #[.bool false, .slice none 0 0] 25)
 have b1 := blk_one w (.bool false) (.slice none 0 0)
 by_cases h0 : 0 ≤ n
 ·obtain ⟨k, rfl⟩ := Int.eq_ofNat_of_zero_le h0
  have N1 := hi9 (rof_out k (by omega))
  clear h0
  go_enter Tryz.func16, Tryz.ntmps16
  go_wp2_with fail
  refine (N1.out _).mono ?_
  rintro e w1 ⟨zs, A', c', rfl, hz, hr, hb⟩
  have hsz := k0.size
  have k1 := bst k0 hb nl9
  replace b1 := b1.below hb b1.lt
  obtain ⟨q0, q1, q2, q3⟩ := b1.two
  go_wp2_with fail
  exact zretT (z := (k : Int)) k1 b1 (by omega) (num_eq hz (by omega)) (hr.mono hsz) (by unfold isNeg; symm; exact decide_eq_false (by omega)) rfl rfl rfl
 ·obtain ⟨k, rfl⟩ : ∃ k : Nat, n = -((k : Int) + 1) := ⟨(-(n + 1)).toNat, by omega⟩
  have hk : k ≤ 9223372036854775807 := by omega
  have N1 := hi9 (rof_out (k + 1) (by omega))
  clear h0 h1 h2
  go_enter Tryz.func16, Tryz.ntmps16
  go_wp2_with fail
  rw [show (-(-((k : Int) + 1) + 1) + 1 : Int) = ((k + 1 : Nat) : Int) from by omega]
  refine (N1.out _).mono ?_
  rintro e w1 ⟨zs, A', c', rfl, hz, hr, hb⟩
  have hsz := k0.size
  have k1 := bst k0 hb nl9
  replace b1 := b1.below hb b1.lt
  obtain ⟨q0, q1, q2, q3⟩ := b1.two
  go_wp2_with fail
  exact zretT (z := -((k : Int) + 1)) k1 b1 (by omega) (num_eq hz (by omega)) (hr.mono hsz) (by unfold isNeg; symm; exact decide_eq_true (by omega)) rfl rfl rfl
end
section
open Go.RowKit
theorem or_high (r d : Nat) (hr : r < 4294967296) (hd : d < 4294967296) : bits BinOp.or IntKind.u64 ((r : Int) * 4294967296) (d : Int) = ((d + 4294967296 * r : Nat) : Int) := by
 rw [show ((r : Int) * 4294967296) = ((r * 2 ^ 32 : Nat) : Int) from by omega, u64_or_nat _ _ (by omega) (by omega), or_shift d r 32 (by omega)]
theorem neg_emod9 (n p : Nat) (hp : 0 < p) : (-(n : Int)) % (p : Int) = if 0 < n % p then ((p - n % p : Nat) : Int) else 0 := by
 have h1 := Nat.div_add_mod n p
 have h2 := Nat.mod_lt n hp
 by_cases h : 0 < n % p
 ·rw [if_pos h]
  refine (eu_of (a := -(n : Int)) (b := p) (q := -((n / p : Nat) : Int) - 1) ?_ (by omega) (by omega)).2
  have e : (n : Int) = (p : Int) * ((n / p : Nat) : Int) + ((n % p : Nat) : Int) := by rw [← Int.natCast_mul, ← Int.natCast_add, h1]
  rw [Int.mul_sub, Int.mul_neg, Int.mul_one, Int.natCast_sub (Nat.le_of_lt h2)]
  omega
 ·rw [if_neg h]
  refine (eu_of (a := -(n : Int)) (b := p) (q := -((n / p : Nat) : Int)) ?_ (by omega) (by omega)).2
  have e : (n : Int) = (p : Int) * ((n / p : Nat) : Int) + ((n % p : Nat) : Int) := by rw [← Int.natCast_mul, ← Int.natCast_add, h1]
  rw [Int.mul_neg]
  omega
section
variable {w : World} {g : Bool} {A : Option Addr} {c K : Nat} {xs : List Nat} {z : Int}
set_option maxHeartbeats 3200000 in
theorem zmod_any (h : Zh w g A c xs z K) (hK : K ≤ 67108864) (p : Nat) (hp0 : 0 < p) (hp : p < 4294967296) :
  Calls Tryz.prog 42 #[.agg #[.bool g, .slice A xs.length c], .int .u32 (p : Int)] w fun e w' => e = .returned (.tuple #[.int .u32 (z % (p : Int)), .int .i64 0]) ∧ Below w.heap.size w w' := by
 have hl := h.hv.len
 have hrd := h.hv.rd
 have hd := h.hv.dig
 have hv := h.hv.val_
 have hsg := h.sg
 have Hsg := hi9 hsg
 have Hv := hi9 hv
 have Hd := hi9 hd
 have b0 := blk_one w (.bool g) (.slice A xs.length c)
 have k0 := bel_one w (.cells #[.bool g, .slice A xs.length c] 25)
 obtain ⟨o, ho⟩ : ∃ o, o = 18446744073709551615 / p := ⟨_, rfl⟩
 have t0 : decide ((p : Int) = 0) = false := decide_eq_false (by omega)
 have Ho := hi9 ho
 have d0 : Hid ((18446744073709551615 : Int) / (p : Int) = ((18446744073709551615 / p : Nat) : Int)) := hi9 (by rw [Int.natCast_ediv]; rfl)
 clear h hv hsg hd
 go_enter Tryz.func42, Tryz.ntmps42
 go_wp2_with (fail)
 go_quiet (fail)
 go_wp2_with (fail)
 rw [d0.out, ← Ho.out]
 have Hb0 := hi9 b0
 obtain ⟨p0, p1, _, _⟩ := b0.two
 clear b0 d0 t0
 go_loopw [6, 8, 9, 10] (fun rv i _ _ wr => ∃ k : Nat, k ≤ xs.length ∧ i = .int .i64 ((k : Int) - 1) ∧ rv = .int .u64 ((val 4294967296 (xs.drop k) % p : Nat) : Int) ∧ Below (w.heap.size + 1) (w.alloc (.cells #[.bool g, .slice A xs.length c] 25)) wr) (fun _ i _ _ _ => (intOf i + 1).toNat)
 case atStart => exact ⟨xs.length, Nat.le_refl _, by go_num, by simp [val], Dr.below (Dr.step (Dr.refl _) _) _⟩
 case round =>
  obtain ⟨k, hk, rfl, rfl, hbel⟩ := hrel
  have hbw : Below w.heap.size w wr := bst k0 (hbel.mono (by simp)) (by simp)
  have b0 := Hb0.out.below (hbel.mono (by simp)) Hb0.out.lt
  rcases k with _ | k
  ·obtain ⟨p2, p3, _, _⟩ := b0.two
   clear p0 p1
   have hv9 : val 4294967296 (xs.drop 0) % p = z.natAbs % p := by rw [List.drop_zero, Hv.out]
   rw [hv9]
   obtain ⟨n, hn⟩ : ∃ n, n = z.natAbs := ⟨_, rfl⟩
   have hmp := Nat.mod_lt z.natAbs hp0
   have ez : z = ivalN g n := by rw [hn]; exact Hsg.out.symm
   rw [← hn] at hmp ⊢
   clear Hsg Hv hn hv9
   obtain ⟨m, hm⟩ : ∃ m, m = n % p := ⟨_, rfl⟩
   have Hm := hi9 hm
   rw [← hm] at hmp ⊢
   clear hm
   cases g
   ·have ea : z % (p : Int) = (m : Int) := by rw [ez, ival_false, Hm.out, Int.natCast_emod]
    have EA := hi9 ea
    clear ez ea
    go_wp2
    go_ret2
    refine ⟨?_, hbw⟩
    rw [EA.out]
    rfl
   ·have ea : z % (p : Int) = if 0 < m then ((p - m : Nat) : Int) else 0 := by rw [ez, ival_true, Hm.out, neg_emod9 n p hp0]
    have EA := hi9 ea
    clear ez ea
    by_cases hm0 : 0 < m
    ·go_wp2
     go_ret2
     refine ⟨?_, hbw⟩
     rw [EA.out, if_pos hm0, Int.natCast_sub (Nat.le_of_lt hmp)]
     rfl
    ·go_wp2
     go_ret2
     refine ⟨?_, hbw⟩
     rw [EA.out, if_neg hm0]
     obtain rfl : m = 0 := by omega
     rfl
  ·rw [show ((k + 1 : Nat) : Int) - 1 = (k : Int) from by omega]
   have hkx : k < xs.length := by omega
   obtain ⟨b, off, rfl, hb, hx⟩ := hrd.at32 hkx
   have hxw := (hbw.cell (p := ⟨b, off + k, none⟩) (show b < _ by omega)).trans hx
   have hdb := Hd.out.at_ k hkx
   have hdr := List.drop_eq_getElem_cons hkx
   have hvk : val 4294967296 (xs.drop k) = xs[k] + 4294967296 * val 4294967296 (xs.drop (k + 1)) := by rw [hdr]; rfl
   obtain ⟨d, hd⟩ : ∃ d, d = xs[k] := ⟨_, rfl⟩
   obtain ⟨r, hr⟩ : ∃ r, r = val 4294967296 (xs.drop (k + 1)) % p := ⟨_, rfl⟩
   rw [← hd] at hxw hdb hvk
   have hrp : r < p := by rw [hr]; exact Nat.mod_lt _ hp0
   have hgoal : (d + 4294967296 * r) % p = val 4294967296 (xs.drop k) % p := by
    have h9 := mod_digit (val 4294967296 (xs.drop (k + 1))) d p 4294967296
    rw [← hr] at h9
    rw [hvk, ← h9, Nat.add_comm, Nat.mul_comm]
   have OR := hi9 (or_high r d (by omega) hdb)
   obtain ⟨p2, p3, _, _⟩ := b0.two
   obtain ⟨x, hxe⟩ : ∃ x, x = d + 4294967296 * r := ⟨_, rfl⟩
   rw [← hxe] at hgoal OR
   have hx9 : x < 18446744073709551616 := by omega
   obtain ⟨q, hq⟩ : ∃ q, q = x * o / 18446744073709551616 := ⟨_, rfl⟩
   obtain ⟨lo, hlo⟩ : ∃ lo, lo = x * o % 18446744073709551616 := ⟨_, rfl⟩
   have MUL : Hid (∀ W, Calls Tryz.prog 66 #[.int .u64 (x : Int), .int .u64 (o : Int)] W fun e w' => e = .returned (.tuple #[.int .u64 (q : Int), .int .u64 (lo : Int)]) ∧ W = w') := fun W => by
    rw [hq, hlo]
    exact mul64_any x o W hx9 (by rw [Ho.out]; exact Nat.lt_of_le_of_lt (Nat.div_le_self _ _) (by decide))
   obtain ⟨hn1, hn2⟩ := mod_near hx9 hp0 Ho.out hq
   have hfin := mod_rest hx9 hp0 Ho.out hq
   have HF := hi9 hfin
   have HG := hi9 hgoal
   have HQ := hi9 hq
   have HR := hi9 hr
   rw [← hr]
   clear hgoal hfin hq hlo hvk hdr hd hx hr p0 p1 ho
   go_upto_region 8 with (fail)
   rw [OR.out]
   clear OR hxe hxw
   go_wp2_with (fail)
   refine (MUL.out _).mono ?_
   rintro e w9 ⟨rfl, rfl⟩
   go_wp2_with (fail)
   obtain ⟨y0, hy0⟩ : ∃ y0, y0 = x - q * p := ⟨_, rfl⟩
   rw [show (x : Int) - (q : Int) * (p : Int) = (y0 : Int) from by rw [hy0, Int.natCast_sub hn1, Int.natCast_mul]]
   have hf1 := HF.out.1
   have hf2 := HF.out.2
   rw [← hy0] at hf1 hf2
   have hy2 : y0 < 2 * p := by omega
   have HE : Hid (x % p = val 4294967296 (xs.drop k) % p) := HG
   obtain ⟨m, hm⟩ : ∃ m, m = x % p := ⟨_, rfl⟩
   rw [← hm] at hf1 hf2 HE
   clear hm hy0 hn1 hn2 HF HG HQ MUL HR
   go_loop [6] (fun rv => ∃ y : Nat, rv = .int .u64 (y : Int) ∧ (y = y0 ∨ p ≤ y0 ∧ y = y0 - p)) (fun rv => (intOf rv).toNat)
   case atStart => exact ⟨y0, rfl, Or.inl rfl⟩
   case round =>
    obtain ⟨y, rfl, hy⟩ := hrel
    by_cases hyp : y < p
    ·have ey : y = m := by
      rcases hy with rfl | ⟨h1, rfl⟩
      ·exact hf1 hyp
      ·exact (hf2 h1).1
     clear hy hf1 hf2
     subst ey
     go_wp2_with (fail)
     go_roundw
     case rel =>
      refine ⟨k, by omega, rfl, ?_⟩
      rw [← Int.natCast_emod, ← HE.out]
     case measure => simp [intOf]; omega
    ·have ey : y = y0 := by
      rcases hy with rfl | ⟨h1, rfl⟩
      ·rfl
      ·have := (hf2 h1).2; omega
     subst ey
     clear hy
     go_wp2_with (fail)
     go_round
     case rel => exact ⟨y - p, by rw [Int.natCast_sub (by omega)], Or.inr ⟨by omega, rfl⟩⟩
     case measure => simp [intOf]; omega
end
end
end Go.Proofs.YtcjgilagldbjnaaGreatDoor
