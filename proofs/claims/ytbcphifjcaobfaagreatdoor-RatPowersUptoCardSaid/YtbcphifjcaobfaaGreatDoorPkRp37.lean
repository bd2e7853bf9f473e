/- The contract of zint's Near. The contracts of the laws' own of, same and lives. The contract of the reference's Copy; an append that is know. Integers and fractions as cells of values, by number; what b. -/
import Derived.Test.YtbcphifjcaobfaaGreatDoorPkRp36
import Derived.Test.YtbcphifjcaobfaaGreatDoorPkRp24
namespace Go.Proofs.YtbcphifjcaobfaaGreatDoor
section
open Go.RowKit
end
section
open Go.RowKit
end
section
open Go.RowKit
def Rs (w : World) (B : Nat) (A : Option Addr) (vs : List Value) : Prop := vs ≠ [] → ∃ g rest, A = some ⟨g, 0, none⟩ ∧ B ≤ g ∧ Blk w g 50 (vs ++ rest)
section
variable {w w' : World} {B B2 g : Nat} {A : Option Addr} {vs : List Value} {x y : Value}
theorem Res.rs {c : Nat} (h : Res w B 50 A c vs) : Rs w B A vs := fun hn => by
 obtain ⟨g, rest, e, hg, hk, _⟩ := h.2.2 hn
 exact ⟨g, rest, e, hg, hk⟩
theorem Rs.rd (h : Rs w B A vs) : Rd w w.heap.size A vs := fun hn => by
 obtain ⟨g, rest, rfl, _, hb⟩ := h hn
 exact Rd.of_blk hb hb.lt 0 (fun k v hv => by
  rw [Nat.zero_add, List.getElem?_append_left (List.getElem?_eq_some_iff.1 hv).1]; exact hv) hn
theorem Rs.next (h : Rs w B A vs) (hb : Below w.heap.size w w') : Rs w' B A vs := fun hn => by
 obtain ⟨g, rest, e, hg, hk⟩ := h hn
 exact ⟨g, rest, e, hg, hk.below hb hk.lt⟩
theorem Rs.mono (h : Rs w B A vs) (hB : B2 ≤ B) : Rs w B2 A vs := fun hn => by
 obtain ⟨g, rest, e, hg, hk⟩ := h hn
 exact ⟨g, rest, e, by omega, hk⟩
theorem Rs.al (h : Rs w B A vs) (o : Obj) : Rs (w.alloc o) B A vs := h.next (br9.alloc nl9 o)
end
end
section
open Go.RowKit
structure QB (q : Rat) (K : Nat) : Prop where
 num : q.num.natAbs < 4294967296 ^ K
 den : q.den < 4294967296 ^ K
theorem den_div (z y : Int) (hy : y ≠ 0) : ((Rat.divInt z y).den : Int) * (Int.gcd y z : Nat) = y.natAbs := by
 rw [Rat.den_divInt, if_neg hy]
 have h : Int.gcd y z ∣ y.natAbs := Int.gcd_dvd_natAbs_left ..
 rw [← Int.natCast_mul, Nat.div_mul_cancel h]
theorem num_div (z y : Int) (_ : y ≠ 0) : (Rat.divInt z y).num * (Int.gcd y z : Nat) = y.sign * z := by
 rw [Rat.num_divInt]
 have h : ((Int.gcd y z : Nat) : Int) ∣ y.sign * z := Int.dvd_mul_of_dvd_right (Int.gcd_dvd_right ..)
 exact Int.ediv_mul_cancel h
theorem qb_div {z y : Int} {K : Nat} (hy : y ≠ 0) (hz : z.natAbs < 4294967296 ^ K) (hd : y.natAbs < 4294967296 ^ K) : QB (Rat.divInt z y) K := by
 have hg : 0 < Int.gcd y z := Int.gcd_pos_of_ne_zero_left _ hy
 constructor
 ·have h := congrArg Int.natAbs (num_div z y hy)
  rw [Int.natAbs_mul, Int.natAbs_mul, Int.natAbs_sign_of_ne_zero hy, Nat.one_mul, Int.natAbs_natCast] at h
  exact Nat.lt_of_le_of_lt (by rw [← h]; exact Nat.le_mul_of_pos_right _ hg) hz
 ·have h := den_div z y hy
  rw [← Int.natCast_mul] at h
  have h2 := Int.ofNat.inj h
  exact Nat.lt_of_le_of_lt (by rw [← h2]; exact Nat.le_mul_of_pos_right _ hg) hd
theorem q_self (q : Rat) : q = Rat.divInt q.num q.den := (Rat.num_divInt_den q).symm
theorem q_den (q : Rat) : ((q.den : Nat) : Int) ≠ 0 := by have := q.den_nz; omega
theorem pow_mono {K J : Nat} (h : K ≤ J) : 4294967296 ^ K ≤ 4294967296 ^ J := Nat.pow_le_pow_right (by omega) h
theorem QB.up {q : Rat} {K J : Nat} (h : QB q K) (hJ : K ≤ J) : QB q J := ⟨Nat.lt_of_lt_of_le h.num (pow_mono hJ), Nat.lt_of_lt_of_le h.den (pow_mono hJ)⟩
theorem mul_lt_b {x y K J : Nat} (h : x < 4294967296 ^ K) (h2 : y < 4294967296 ^ J) : x * y < 4294967296 ^ (K + J) := by
 rw [Nat.pow_add]
 exact Nat.mul_lt_mul'' h h2
theorem QB.mul {q r : Rat} {K J : Nat} (h : QB q K) (h2 : QB r J) : QB (q * r) (K + J) := by
 have e : q * r = Rat.divInt (q.num * r.num) (q.den * r.den : Int) := by
  conv => lhs; rw [q_self q, q_self r]
  rw [Rat.divInt_mul_divInt]
 rw [e]
 have h0 : ((q.den : Int) * r.den) ≠ 0 := Int.mul_ne_zero (q_den q) (q_den r)
 refine qb_div h0 ?_ ?_
 ·rw [Int.natAbs_mul]; exact mul_lt_b h.num h2.num
 ·rw [Int.natAbs_mul]; exact mul_lt_b h.den h2.den
theorem QB.add {q r : Rat} {K J : Nat} (h : QB q K) (h2 : QB r J) : QB (q + r) (K + J + 1) := by
 have e : q + r = Rat.divInt (q.num * r.den + r.num * q.den) (q.den * r.den : Int) := by
  conv => lhs; rw [q_self q, q_self r]
  rw [Rat.divInt_add_divInt _ _ (q_den q) (q_den r)]
 rw [e]
 have h0 : ((q.den : Int) * r.den) ≠ 0 := Int.mul_ne_zero (q_den q) (q_den r)
 have a1 : (q.num * r.den).natAbs < 4294967296 ^ (K + J) := by rw [Int.natAbs_mul]; exact mul_lt_b h.num h2.den
 have a2 : (r.num * q.den).natAbs < 4294967296 ^ (K + J) := by rw [Int.natAbs_mul, Nat.add_comm K J]; exact mul_lt_b h2.num h.den
 have e2 : 4294967296 ^ (K + J + 1) = 4294967296 ^ (K + J) * 4294967296 := Nat.pow_succ ..
 refine qb_div h0 ?_ ?_
 ·generalize 4294967296 ^ (K + J) = b at *
  omega
 ·exact Nat.lt_of_lt_of_le (by rw [Int.natAbs_mul]; exact mul_lt_b h.den h2.den) (pow_mono (Nat.le_succ _))
theorem QB.neg {q : Rat} {K : Nat} (h : QB q K) : QB (-q) K := ⟨by rw [Rat.neg_num, Int.natAbs_neg]; exact h.num, by rw [Rat.neg_den]; exact h.den⟩
theorem div_mul (z y x v : Int) : Rat.divInt (z * x) (y * v) = Rat.divInt z y * Rat.divInt x v := (Rat.divInt_mul_divInt z x).symm
theorem div_inv (z y : Int) : Rat.divInt y z = (Rat.divInt z y)⁻¹ := (Rat.inv_divInt z y).symm
theorem QB.inv {q : Rat} {K : Nat} (h : QB q K) (h0 : q ≠ 0) : QB q⁻¹ K := by
 have hn : q.num ≠ 0 := fun e => h0 (Rat.num_eq_zero.1 e)
 rw [Rat.inv_def]
 exact qb_div hn (by exact h.den) h.num
theorem up_sign {z y : Int} (hy : y ≠ 0) : upN z y = y.sign * z := by
 unfold upN
 rcases sign_cases y with ⟨a, b⟩ | ⟨a, b⟩ | ⟨a, b⟩
 ·exact absurd a hy
 ·rw [b, if_pos a]; omega
 ·rw [b, if_neg (by omega)]; omega
theorem lowG_eq {z y : Int} (hy : y ≠ 0) : lowG z y = Int.gcd y z := by
 unfold lowG upD
 rw [up_sign hy]
 unfold Int.gcd
 rw [Int.natAbs_natCast, Int.natAbs_mul, Int.natAbs_sign_of_ne_zero hy, Nat.one_mul]
theorem lowN_q {z y : Int} (hy : y ≠ 0) : lowN z y = (Rat.divInt z y).num := by
 have hg : 0 < Int.gcd y z := Int.gcd_pos_of_ne_zero_left _ hy
 unfold lowN
 rw [lowG_eq hy, up_sign hy, ← num_div z y hy]
 exact Int.mul_tdiv_cancel _ (by omega)
theorem lowD_q {z y : Int} (hy : y ≠ 0) : lowD z y = ((Rat.divInt z y).den : Int) := by
 have hg : 0 < Int.gcd y z := Int.gcd_pos_of_ne_zero_left _ hy
 unfold lowD upD
 rw [lowG_eq hy, ← den_div z y hy]
 exact Int.mul_tdiv_cancel _ (by omega)
noncomputable def nd (n : Nat) : List Nat := Classical.epsilon fun xs => Num 4294967296 xs n
theorem nd_eq {n : Nat} {xs : List Nat} (h : Num 4294967296 xs n) : nd n = xs := Num.unique (by omega) (Classical.epsilon_spec (p := fun xs => Num 4294967296 xs n) ⟨xs, h⟩) h
def Keep (B : Nat) (w : World) (A : Option Addr) (xs : List Nat) : Prop := xs ≠ [] → ∃ b off, A = some ⟨b, off, none⟩ ∧ (b < B ∨ ∃ L, Blk w b 50 L)
def IX (B : Nat) (w : World) (p q : Value) (g : Bool) (xs : List Nat) (z : Int) (K : Nat) : Prop := ∃ A c, p = .bool g ∧ q = .slice A xs.length c ∧ Zh w g A c xs z K ∧ Keep B w A xs
def IV (B : Nat) (w : World) (p q : Value) (z : Int) (K : Nat) : Prop := ∃ g xs, IX B w p q g xs z K
def IN (w : World) (B : Nat) (p q : Value) (z : Int) : Prop := ∃ A c, p = .bool (isNeg z) ∧ q = .slice A (nd z.natAbs).length c ∧ Num 4294967296 (nd z.natAbs) z.natAbs ∧ Res w B 50 A c (u32s (nd z.natAbs))
def IOz (w w' : World) (z : Int) (e : Ending) : Prop := ∃ (g : Bool) (A : Option Addr) (m c : Nat), e = .returned (.agg #[.bool g, .slice A m c]) ∧ IN w' w.heap.size (.bool g) (.slice A m c) z ∧ Below w.heap.size w w'
section
variable {B B2 : Nat} {w w' : World} {A A2 : Option Addr} {p q p2 q2 : Value} {g g2 : Bool} {c c2 K J : Nat} {xs ys : List Nat} {z y : Int} {e : Ending}
theorem IX.next (h : IX B w p q g xs z K) (hb : Below w.heap.size w w') : IX B w' p q g xs z K := by
 obtain ⟨A, c, e1, e2, hz, hk⟩ := h
 refine ⟨A, c, e1, e2, hz.next hb, fun hn => ?_⟩
 obtain ⟨b, off, e3, h3⟩ := hk hn
 exact ⟨b, off, e3, h3.imp id fun ⟨L, hL⟩ => ⟨L, hL.below hb hL.lt⟩⟩
theorem IX.up (h : IX B w p q g xs z K) (hB : B ≤ B2) : IX B2 w p q g xs z K := by
 obtain ⟨A, c, e1, e2, hz, hk⟩ := h
 refine ⟨A, c, e1, e2, hz, fun hn => ?_⟩
 obtain ⟨b, off, e3, h3⟩ := hk hn
 exact ⟨b, off, e3, h3.imp (fun h => Nat.lt_of_lt_of_le h hB) id⟩
theorem ne_nil_u {xs : List Nat} (h : xs ≠ []) : u32s xs ≠ [] := fun e => h (by
 have := u32s_length xs
 rw [e] at this
 exact List.eq_nil_of_length_eq_zero this.symm)
theorem IX.of_zh (h : Zh w g A c xs z K) : IX w.heap.size w (.bool g) (.slice A xs.length c) g xs z K := ⟨A, c, rfl, rfl, h, fun hn => by
 obtain ⟨b, off, e3, h3, _⟩ := h.hv.rd (ne_nil_u hn)
 exact ⟨b, off, e3, Or.inl h3⟩⟩
theorem IX.enter (h : IX B w p q g xs z K) : IX w.heap.size w p q g xs z K := by
 obtain ⟨A, c, rfl, rfl, hz, hk⟩ := h
 exact IX.of_zh hz
theorem IX.var (h : IX B w p q g xs z K) {k i : Nat} {t : TypeId} {L : List Value} (hB : B ≤ k) (hk : Blk w k t L) (ht : t ≠ 50) (u : Value) : IX B (w.setCell ⟨k, i, none⟩ u) p q g xs z K := by
 obtain ⟨A, c, e1, e2, hz, hkp⟩ := h
 have far : ∀ b : Nat, (b < B ∨ ∃ L, Blk w b 50 L) → b ≠ k := fun b hb => by
  rintro rfl
  rcases hb with hb | ⟨L2, hL⟩
  ·omega
  ·unfold Blk at hL hk
   rw [hk] at hL
   have e9 := Option.some.inj hL
   injection e9 with _ e8 _
   exact ht e8
 refine ⟨A, c, e1, e2, ⟨⟨hz.hv.dig, hz.hv.val_, fun hn => ?_, hz.hv.cap, hz.hv.len⟩, hz.sg⟩, fun hn => ?_⟩
 ·have hn2 : xs ≠ [] := fun e => hn (by rw [e]; rfl)
  obtain ⟨b, off, e3, h3⟩ := hkp hn2
  obtain ⟨b2, off2, e4, h4, h5⟩ := hz.hv.rd hn
  rw [e3] at e4
  cases e4
  refine ⟨b, off, e3, by simpa [World.setCell] using h4, fun j v hv => ?_⟩
  exact (World.cell?_setCell_far _ _ _ _ (Ne.symm (far b h3))).trans (h5 j v hv)
 ·obtain ⟨b, off, e3, h3⟩ := hkp hn
  exact ⟨b, off, e3, h3.imp id fun ⟨L2, hL⟩ => ⟨L2, hL.far (p := ⟨k, i, none⟩) (far b (Or.inr ⟨L2, hL⟩)) u⟩⟩
theorem IX.iv (h : IX B w p q g xs z K) : IV B w p q z K := ⟨g, xs, h⟩
theorem IV.next (h : IV B w p q z K) (hb : Below w.heap.size w w') : IV B w' p q z K := let ⟨g, xs, h⟩ := h; ⟨g, xs, h.next hb⟩
theorem IV.up (h : IV B w p q z K) (hB : B ≤ B2) : IV B2 w p q z K := let ⟨g, xs, h⟩ := h; ⟨g, xs, h.up hB⟩
theorem IV.enter (h : IV B w p q z K) : IV w.heap.size w p q z K := let ⟨g, xs, h⟩ := h; ⟨g, xs, h.enter⟩
theorem IV.var (h : IV B w p q z K) {k i : Nat} {t : TypeId} {L : List Value} (hB : B ≤ k) (hk : Blk w k t L) (ht : t ≠ 50) (u : Value) : IV B (w.setCell ⟨k, i, none⟩ u) p q z K := let ⟨g, xs, h⟩ := h; ⟨g, xs, h.var hB hk ht u⟩
theorem IV.of_zh (h : Zh w g A c xs z K) : IV w.heap.size w (.bool g) (.slice A xs.length c) z K := (IX.of_zh h).iv
theorem IV.open_ (h : IV B w p q z K) : ∃ g A c xs, p = .bool g ∧ q = .slice A xs.length c ∧ Zh w g A c xs z K := let ⟨g, xs, A, c, e1, e2, hz, _⟩ := h; ⟨g, A, c, xs, e1, e2, hz⟩
theorem IV.lt (h : IV B w p q z K) : z.natAbs < 4294967296 ^ K := let ⟨_, _, _, _, _, _, hz⟩ := h.open_; hz.lt
theorem IV.to (h : IV B w p q z K) (e : z = y) : IV B w p q y K := e ▸ h
theorem IN.next (h : IN w B p q z) (hb : Below w.heap.size w w') : IN w' B p q z := let ⟨A, c, e1, e2, n, r⟩ := h; ⟨A, c, e1, e2, n, r.below hb nl9⟩
theorem IN.mono (h : IN w B p q z) (hB : B2 ≤ B) : IN w B2 p q z := let ⟨A, c, e1, e2, n, r⟩ := h; ⟨A, c, e1, e2, n, r.mono hB⟩
theorem IN.to (h : IN w B p q z) (e : z = y) : IN w B p q y := e ▸ h
theorem IN.var (h : IN w B p q z) {k i : Nat} {t : TypeId} {L : List Value} (hk : Blk w k t L) (ht : t ≠ 50) (u : Value) : IN (w.setCell ⟨k, i, none⟩ u) B p q z := by
 obtain ⟨A, c, e1, e2, n, r⟩ := h
 refine ⟨A, c, e1, e2, n, r.1, r.2.1, fun hn => ?_⟩
 obtain ⟨b, rest, e, hb, hL, hc⟩ := r.2.2 hn
 refine ⟨b, rest, e, hb, hL.far (p := ⟨k, i, none⟩) ?_ _, hc⟩
 rintro rfl
 unfold Blk at hL hk
 rw [hk] at hL
 have e9 := Option.some.inj hL
 injection e9 with _ e8 _
 exact ht e8
theorem IN.ix (h : IN w B p q z) (hK : z.natAbs < 4294967296 ^ K) : IX B2 w p q (isNeg z) (nd z.natAbs) z K := by
 obtain ⟨A, c, e1, e2, n, r⟩ := h
 refine ⟨A, c, e1, e2, Zh.of n r hK, fun hn => ?_⟩
 obtain ⟨b, rest, e, hb, hL, hc⟩ := r.2.2 (ne_nil_u hn)
 exact ⟨b, 0, e, Or.inr ⟨_, hL⟩⟩
theorem IN.iv (h : IN w B p q z) (hK : z.natAbs < 4294967296 ^ K) : IV B2 w p q z K := (h.ix hK).iv
theorem IN.of {zs : List Nat} (n : Num 4294967296 zs z.natAbs) (r : Res w B 50 A c (u32s zs)) : IN w B (.bool (isNeg z)) (.slice A zs.length c) z := by
 have e := nd_eq n
 exact ⟨A, c, rfl, by rw [e], by rw [e]; exact n, by rw [e]; exact r⟩
theorem IN.open_ (h : IN w B p q z) : ∃ A c zs, p = .bool (isNeg z) ∧ q = .slice A zs.length c ∧ Num 4294967296 zs z.natAbs ∧ Res w B 50 A c (u32s zs) := let ⟨A, c, e1, e2, n, r⟩ := h; ⟨A, c, _, e1, e2, n, r⟩
theorem IN.zero : IN w B (.bool false) (.slice none 0 0) 0 := IN.of (z := 0) (zs := []) (Num.zero_ _) Res.none_
theorem ZOut.io (h : ZOut w w' z e) : IOz w w' z e := by
 obtain ⟨zs, A', c', rfl, n, r, hb⟩ := h
 exact ⟨_, _, _, _, rfl, IN.of n r, hb⟩
end
structure Tb (w : World) : Prop where
 tab : Tab64 w
 lt : 1 < w.heap.size
theorem Tb.next {w w' : World} (h : Tb w) (hb : Below w.heap.size w w') : Tb w' := ⟨h.tab.below hb h.lt, Nat.lt_of_lt_of_le h.lt hb.size⟩
structure FV (B : Nat) (w : World) (a b c d : Value) (z y : Int) (K : Nat) : Prop where
 num : IV B w a b z K
 den : IV B w c d y K
def QV (B : Nat) (w : World) (a b c d : Value) (q : Rat) (K : Nat) : Prop := ∃ z y, FV B w a b c d z y K ∧ y ≠ 0 ∧ Rat.divInt z y = q
structure FN (w : World) (B : Nat) (a b c d : Value) (n m : Int) : Prop where
 num : IN w B a b n
 den : IN w B c d m
def RO (w w' : World) (n m : Int) (e : Ending) : Prop := ∃ (s0 : Bool) (s1 : Option Addr) (s2 s3 : Nat) (s4 : Bool) (s5 : Option Addr) (s6 s7 : Nat), e = .returned (.agg #[.bool s0, .slice s1 s2 s3, .bool s4, .slice s5 s6 s7]) ∧ FN w' w.heap.size (.bool s0) (.slice s1 s2 s3) (.bool s4) (.slice s5 s6 s7) n m ∧ Below w.heap.size w w'
def RE (w w' : World) (n m er : Int) (e : Ending) : Prop := ∃ (s0 : Bool) (s1 : Option Addr) (s2 s3 : Nat) (s4 : Bool) (s5 : Option Addr) (s6 s7 : Nat), e = .returned (.tuple #[.agg #[.bool s0, .slice s1 s2 s3, .bool s4, .slice s5 s6 s7], .int .i64 er]) ∧ FN w' w.heap.size (.bool s0) (.slice s1 s2 s3) (.bool s4) (.slice s5 s6 s7) n m ∧ Below w.heap.size w w'
section
variable {B B2 : Nat} {w w' : World} {a b c d a2 b2 c2 d2 : Value} {K J : Nat} {z y n m er : Int} {q r : Rat} {e : Ending}
theorem FV.next (h : FV B w a b c d z y K) (hb : Below w.heap.size w w') : FV B w' a b c d z y K := ⟨h.num.next hb, h.den.next hb⟩
theorem FV.enter (h : FV B w a b c d z y K) : FV w.heap.size w a b c d z y K := ⟨h.num.enter, h.den.enter⟩
theorem FV.up (h : FV B w a b c d z y K) (hB : B ≤ B2) : FV B2 w a b c d z y K := ⟨h.num.up hB, h.den.up hB⟩
theorem FV.var (h : FV B w a b c d z y K) {k i : Nat} {t : TypeId} {L : List Value} (hB : B ≤ k) (hk : Blk w k t L) (ht : t ≠ 50) (u : Value) : FV B (w.setCell ⟨k, i, none⟩ u) a b c d z y K := ⟨h.num.var hB hk ht u, h.den.var hB hk ht u⟩
theorem QV.next (h : QV B w a b c d q K) (hb : Below w.heap.size w w') : QV B w' a b c d q K := let ⟨z, y, h, k⟩ := h; ⟨z, y, h.next hb, k⟩
theorem QV.enter (h : QV B w a b c d q K) : QV w.heap.size w a b c d q K := let ⟨z, y, h, k⟩ := h; ⟨z, y, h.enter, k⟩
theorem QV.up (h : QV B w a b c d q K) (hB : B ≤ B2) : QV B2 w a b c d q K := let ⟨z, y, h, k⟩ := h; ⟨z, y, h.up hB, k⟩
theorem QV.var (h : QV B w a b c d q K) {k i : Nat} {t : TypeId} {L : List Value} (hB : B ≤ k) (hk : Blk w k t L) (ht : t ≠ 50) (u : Value) : QV B (w.setCell ⟨k, i, none⟩ u) a b c d q K := let ⟨z, y, h, k⟩ := h; ⟨z, y, h.var hB hk ht u, k⟩
theorem QV.to (h : QV B w a b c d q K) (e : q = r) : QV B w a b c d r K := e ▸ h
theorem QV.qb (h : QV B w a b c d q K) : QB q K := by
 obtain ⟨z, y, h, h0, rfl⟩ := h
 exact qb_div h0 h.num.lt h.den.lt
theorem FN.next (h : FN w B a b c d n m) (hb : Below w.heap.size w w') : FN w' B a b c d n m := ⟨h.num.next hb, h.den.next hb⟩
theorem FN.mono (h : FN w B a b c d n m) (hB : B2 ≤ B) : FN w B2 a b c d n m := ⟨h.num.mono hB, h.den.mono hB⟩
theorem FN.var (h : FN w B a b c d n m) {k i : Nat} {t : TypeId} {L : List Value} (hk : Blk w k t L) (ht : t ≠ 50) (u : Value) : FN (w.setCell ⟨k, i, none⟩ u) B a b c d n m := ⟨h.num.var hk ht u, h.den.var hk ht u⟩
theorem FN.to {n2 m2 : Int} (h : FN w B a b c d n m) (e : n = n2) (e2 : m = m2) : FN w B a b c d n2 m2 := e ▸ e2 ▸ h
theorem FN.qv (h : FN w B a b c d q.num q.den) (hq : QB q K) : QV B2 w a b c d q K := ⟨q.num, q.den, ⟨h.num.iv hq.num, h.den.iv (by rw [Int.natAbs_natCast]; exact hq.den)⟩, q_den q, (q_self q).symm⟩
theorem ROut.ro (h : ROut w w' n m e) : RO w w' n m e := by
 obtain ⟨zs, A1, c1, ys, A2, c2, rfl, n1, n2, r1, r2, hb⟩ := h
 exact ⟨_, _, _, _, _, _, _, _, rfl, ⟨IN.of n1 r1, IN.of n2 r2⟩, hb⟩
theorem RAns.re (h : RAns w w' n m er e) : RE w w' n m er e := by
 obtain ⟨zs, A1, c1, ys, A2, c2, rfl, n1, n2, r1, r2, hb⟩ := h
 exact ⟨_, _, _, _, _, _, _, _, rfl, ⟨IN.of n1 r1, IN.of n2 r2⟩, hb⟩
theorem RO.to {n2 m2 : Int} (h : RO w w' n m e) (e1 : n = n2) (e2 : m = m2) : RO w w' n2 m2 e := e1 ▸ e2 ▸ h
theorem RE.to {n2 m2 : Int} (h : RE w w' n m er e) (e1 : n = n2) (e2 : m = m2) : RE w w' n2 m2 er e := e1 ▸ e2 ▸ h
theorem IOz.to {w w' : World} {z y : Int} {e : Ending} (h : IOz w w' z e) (e9 : z = y) : IOz w w' y e := e9 ▸ h
end
theorem IV.zsign {w : World} {B : Nat} {p q : Value} {z : Int} {K : Nat} (h : IV B w p q z K) (hK : K ≤ 67108864) : Calls Tryz.prog 63 #[.agg #[p, q]] w fun e w' => e = .returned (.int .i64 z.sign) ∧ Below w.heap.size w w' := by
 obtain ⟨g, A, c, xs, rfl, rfl, k⟩ := h.open_
 exact k.sign hK
theorem IV.isOne {w : World} {B : Nat} {p q : Value} {z : Int} {K : Nat} (h : IV B w p q z K) (hK : K ≤ 67108864) : Calls Tryz.prog 83 #[.agg #[p, q]] w fun e w' => e = .returned (.bool (decide (z = 1))) ∧ Below w.heap.size w w' := by
 obtain ⟨g, A, c, xs, rfl, rfl, k⟩ := h.open_
 exact isone_any k hK
theorem IV.radd {w : World} {B B2 : Nat} {p q p2 q2 : Value} {z y : Int} {K J : Nat} (h : IV B w p q z K) (h2 : IV B2 w p2 q2 y J) (hK : K ≤ 67108863) (hJ : J ≤ 67108863) : Calls Tryz.prog 87 #[.agg #[p, q], .agg #[p2, q2]] w fun e w' => IOz w w' (z + y) e := by
 obtain ⟨g, A, c, xs, rfl, rfl, k⟩ := h.open_
 obtain ⟨g2, A2, c2, ys, rfl, rfl, k2⟩ := h2.open_
 exact (k.radd k2 hK hJ).mono fun e w' r => r.io
theorem IV.rmul {w : World} {B B2 : Nat} {p q p2 q2 : Value} {z y : Int} {K J : Nat} (h : IV B w p q z K) (h2 : IV B2 w p2 q2 y J) (hK : K + J ≤ 67108864) : Calls Tryz.prog 88 #[.agg #[p, q], .agg #[p2, q2]] w fun e w' => IOz w w' (z * y) e := by
 obtain ⟨g, A, c, xs, rfl, rfl, k⟩ := h.open_
 obtain ⟨g2, A2, c2, ys, rfl, rfl, k2⟩ := h2.open_
 exact (k.rmul k2 hK).mono fun e w' r => r.io
theorem IV.rneg {w : World} {B : Nat} {p q : Value} {z : Int} {K : Nat} (h : IV B w p q z K) (hK : K ≤ 67108864) : Calls Tryz.prog 86 #[.agg #[p, q]] w fun e w' => IOz w w' (-z) e := by
 obtain ⟨g, A, c, xs, rfl, rfl, k⟩ := h.open_
 exact (k.rneg hK).mono fun e w2 r => r.io
theorem IV.rsign {w : World} {B : Nat} {p q : Value} {z : Int} {K : Nat} (h : IV B w p q z K) (hK : K ≤ 67108864) : Calls Tryz.prog 71 #[.agg #[p, q]] w fun e w' => e = .returned (.int .i64 z.sign) ∧ Below w.heap.size w w' := by
 obtain ⟨g, A, c, xs, rfl, rfl, k⟩ := h.open_
 exact k.rsign hK
theorem io_of (n : Int) (h1 : -9223372036854775808 ≤ n) (h2 : n ≤ 9223372036854775807) (w : World) : Calls Tryz.prog 75 #[.int .i64 n] w fun e w' => IOz w w' n e := (zof_any n h1 h2 w).mono fun _ _ h => h.io
theorem io_rof (n : Int) (h1 : -9223372036854775808 ≤ n) (h2 : n ≤ 9223372036854775807) (w : World) : Calls Tryz.prog 76 #[.int .i64 n] w fun e w' => IOz w w' n e := (rzof_any n h1 h2 w).mono fun _ _ h => h.io
theorem IX.rsame {w : World} {B B2 : Nat} {p q p2 q2 : Value} {g : Bool} {xs : List Nat} {z y : Int} {K J : Nat} (h : IX B w p q g xs z K) (h2 : IX B2 w p2 q2 g xs y J) (hK : K ≤ 281474976710656) : Calls Tryz.prog 22 #[.agg #[p, q], .agg #[p2, q2]] w fun e w' => e = .returned (.bool true) ∧ Below w.heap.size w w' := by
 obtain ⟨A, c, rfl, rfl, k, _⟩ := h
 obtain ⟨A2, c2, rfl, rfl, k2, _⟩ := h2
 exact zsame_yes g k.hv.rd k2.hv.rd (by have := k.hv.len; omega)
theorem QV.qnorm {w : World} {B : Nat} {a b c d : Value} {q : Rat} {K : Nat} (h : QV B w a b c d q K) (hK : K ≤ 33554431) (hT : Tb w) : Calls Tryz.prog 12 #[.agg #[a, b, c, d]] w fun e w' => RE w w' q.num q.den 0 e := by
 obtain ⟨z, y, h, h0, rfl⟩ := h
 obtain ⟨g, A, c1, xs, rfl, rfl, k⟩ := h.num.open_
 obtain ⟨g2, A2, c2, ys, rfl, rfl, k2⟩ := h.den.open_
 exact (ratnorm_good k k2 hK h0 hT.tab hT.lt).mono fun e w' r => r.re.to (lowN_q h0) (lowD_q h0)
theorem QV.qmul {w : World} {B B2 : Nat} {a b c d a2 b2 c2 d2 : Value} {q r : Rat} {K : Nat} (h : QV B w a b c d q K) (h' : QV B2 w a2 b2 c2 d2 r K) (hK : K ≤ 16777215) (hT : Tb w) : Calls Tryz.prog 31 #[.agg #[a, b, c, d], .agg #[a2, b2, c2, d2]] w fun e w' => RE w w' (q * r).num (q * r).den 0 e := by
 obtain ⟨z, y, h, h0, rfl⟩ := h
 obtain ⟨g, A, c1, xs, rfl, rfl, k⟩ := h.num.open_
 obtain ⟨g2, A2, c2, ys, rfl, rfl, k2⟩ := h.den.open_
 obtain ⟨x, v, h', h0', rfl⟩ := h'
 obtain ⟨g3, A3, c3, us, rfl, rfl, k3⟩ := h'.num.open_
 obtain ⟨g4, A4, c4, vs, rfl, rfl, k4⟩ := h'.den.open_
 exact (ratmul_good k k2 k3 k4 hK h0 h0' hT.tab hT.lt).mono fun e w' r => r.re.to ((lowN_q (Int.mul_ne_zero h0 h0')).trans (by rw [div_mul])) ((lowD_q (Int.mul_ne_zero h0 h0')).trans (by rw [div_mul]))
theorem QV.rqnorm {w : World} {B : Nat} {a b c d : Value} {q : Rat} {K : Nat} (h : QV B w a b c d q K) (hK : K ≤ 33554431)  : Calls Tryz.prog 18 #[.agg #[a, b, c, d]] w fun e w' => RO w w' q.num q.den e := by
 obtain ⟨z, y, h, h0, rfl⟩ := h
 obtain ⟨g, A, c1, xs, rfl, rfl, k⟩ := h.num.open_
 obtain ⟨g2, A2, c2, ys, rfl, rfl, k2⟩ := h.den.open_
 exact (rnorm05_any k k2 hK h0).mono fun e w' r => r.ro.to (lowN_q h0) (lowD_q h0)
theorem FV.norm_bad {w : World} {B : Nat} {a b c d : Value} {z : Int} {K : Nat} (h : FV B w a b c d z 0 K) (hK : K ≤ 33554431) : Calls Tryz.prog 12 #[.agg #[a, b, c, d]] w fun e w' => RE w w' 0 0 6 e := by
 obtain ⟨g, A, c1, xs, rfl, rfl, k⟩ := h.num.open_
 obtain ⟨g2, A2, c2, ys, rfl, rfl, k2⟩ := h.den.open_
 exact (ratnorm_bad k k2 hK rfl).mono fun e w' r => r.re
theorem FV.rmay {w : World} {B : Nat} {a b c d : Value} {z y : Int} {K : Nat} (h : FV B w a b c d z y K) (hK : K ≤ 67108864) : Calls Tryz.prog 16 #[.agg #[a, b, c, d]] w fun e w' => e = .returned (.bool (decide (y ≠ 0))) ∧ Below w.heap.size w w' := by
 obtain ⟨g, A, c1, xs, rfl, rfl, k⟩ := h.num.open_
 obtain ⟨g2, A2, c2, ys, rfl, rfl, k2⟩ := h.den.open_
 exact rmay_any k2 hK
theorem IV.lowest {w : World} {B B2 : Nat} {p q p2 q2 : Value} {z y : Int} {K : Nat} (h : IV B w p q z K) (h2 : IV B2 w p2 q2 y K) (hK : K ≤ 33554431) (hy : y ≠ 0) (hT : Tb w) : Calls Tryz.prog 60 #[.agg #[p, q], .agg #[p2, q2]] w fun e w' => RO w w' (Rat.divInt z y).num (Rat.divInt z y).den e := by
 obtain ⟨g, A, c, xs, rfl, rfl, k⟩ := h.open_
 obtain ⟨g2, A2, c2, ys, rfl, rfl, k2⟩ := h2.open_
 exact (lowest_any k k2 hK hy hT.tab hT.lt).mono fun e w' r => r.ro.to (lowN_q hy) (lowD_q hy)
theorem IV.rmake {w : World} {B B2 : Nat} {p q p2 q2 : Value} {z y : Int} {K : Nat} (h : IV B w p q z K) (h2 : IV B2 w p2 q2 y K) (hK : K ≤ 33554431) (hy : y ≠ 0) : Calls Tryz.prog 72 #[.agg #[p, q], .agg #[p2, q2]] w fun e w' => RO w w' (Rat.divInt z y).num (Rat.divInt z y).den e := by
 obtain ⟨g, A, c, xs, rfl, rfl, k⟩ := h.open_
 obtain ⟨g2, A2, c2, ys, rfl, rfl, k2⟩ := h2.open_
 exact (rmake_any k k2 hK hy).mono fun e w' r => r.ro.to (lowN_q hy) (lowD_q hy)
end
end Go.Proofs.YtbcphifjcaobfaaGreatDoor
