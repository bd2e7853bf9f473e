/- The contract of zint's Near. The contracts of the laws' own of, same and lives. The contract of the reference's Copy; an append that is know. Integers and fractions as cells of values, by number; what b. -/
import Derived.Test.YtbcphifjcaobfaaGreatDoorPkRs36
import Derived.Test.YtbcphifjcaobfaaGreatDoorPkRs24
namespace Go.Proofs.YtbcphifjcaobfaaGreatDoor
section
open Go.RowKit
end
section
open Go.RowKit
end
section
open Go.RowKit
def Rs (w : World) (B : Nat) (A : Option Addr) (vs : List Value) : Prop := vs ≠ [] → ∃ g rest, A = some ⟨g, 0, none⟩ ∧ B ≤ g ∧ Blk w g 50 (vs ++ rest)
section
variable {w w' : World} {B B2 g : Nat} {A : Option Addr} {vs : List Value} {x y : Value}
theorem Res.rs {c : Nat} (h : Res w B 50 A c vs) : Rs w B A vs := fun hn => by
 obtain ⟨g, rest, e, hg, hk, _⟩ := h.2.2 hn
 exact ⟨g, rest, e, hg, hk⟩
theorem Rs.rd (h : Rs w B A vs) : Rd w w.heap.size A vs := fun hn => by
 obtain ⟨g, rest, rfl, _, hb⟩ := h hn
 exact Rd.of_blk hb hb.lt 0 (fun k v hv => by
  rw [Nat.zero_add, List.getElem?_append_left (List.getElem?_eq_some_iff.1 hv).1]; exact hv) hn
theorem Rs.next (h : Rs w B A vs) (hb : Below w.heap.size w w') : Rs w' B A vs := fun hn => by
 obtain ⟨g, rest, e, hg, hk⟩ := h hn
 exact ⟨g, rest, e, hg, hk.below hb hk.lt⟩
theorem Rs.mono (h : Rs w B A vs) (hB : B2 ≤ B) : Rs w B2 A vs := fun hn => by
 obtain ⟨g, rest, e, hg, hk⟩ := h hn
 exact ⟨g, rest, e, by omega, hk⟩
theorem Rs.al (h : Rs w B A vs) (o : Obj) : Rs (w.alloc o) B A vs := h.next (br9.alloc nl9 o)
theorem Rs.var2 (h : Rs w B A vs) (hB : Blk w g 25 [x, y]) (u v : Value) : Rs ((w.setCell ⟨g, 0, none⟩ u).setCell ⟨g, 1, none⟩ v) B A vs := fun hn => by
 obtain ⟨b, rest, e, hb, hk⟩ := h hn
 have hne : b ≠ g := by
  rintro rfl
  unfold Blk at hk hB
  rw [hk] at hB
  have hB2 := Option.some.inj hB
  injection hB2 with _ e2 _
  exact type_ne e2
 exact ⟨b, rest, e, hb, (hk.far (p := ⟨g, 0, none⟩) hne _).far (p := ⟨g, 1, none⟩) hne _⟩
end
theorem own_rs {w : World} {base : Nat} {v : Value} {n : Nat} {xs : List Value} (h : w.ownsRow base 50 1 v n xs) : ∃ A c, v = .slice A n c ∧ n ≤ c ∧ Rs w base A xs := by
 obtain ⟨hl, h1 | ⟨g, cap, cur, rfl, hg, hh, hnc, hcm, hsz, ht⟩⟩ := h
 ·obtain ⟨rfl, rfl⟩ := h1
  have : xs = [] := List.eq_nil_of_length_eq_zero (by simpa using hl)
  subst this
  exact ⟨none, 0, rfl, Nat.le_refl _, fun h => absurd rfl h⟩
 ·have hl' : xs.length = n := by simpa using hl
  have hb : Blk w g 50 cur.toList := by simpa [Blk] using hh
  have e1 : cur.toList = xs ++ cur.toList.drop xs.length := by
   conv => lhs; rw [← List.take_append_drop xs.length cur.toList]
   congr 1
   rw [hl']; simpa using ht
  exact ⟨_, cap, rfl, hnc, fun _ => ⟨g, cur.toList.drop xs.length, rfl, hg, by rw [← e1]; exact hb⟩⟩
set_option maxRecDepth 20000 in
set_option maxHeartbeats 1600000 in
theorem copy_any {w : World} {g : Bool} {A : Option Addr} {c : Nat} {xs : List Nat} (hr : Rd w w.heap.size A (u32s xs)) (hm : xs.length ≤ 35184372088000) :
  Calls Tryz.prog 79 #[.agg #[.bool g, .slice A xs.length c]] w fun e w' => ∃ A' c', e = .returned (.agg #[.bool g, .slice A' xs.length c']) ∧ xs.length ≤ c' ∧ Rs w' w.heap.size A' (u32s xs) ∧ Below w.heap.size w w' := by
 have k0 := bel_two w (.cells #[.bool g, .slice A xs.length c] 25) (.cells #[.bool false, .slice none 0 0] 25)
 obtain ⟨b0, b1⟩ := blk_pair2 w (.bool g) (.slice A xs.length c) (.bool false) (.slice none 0 0)
 obtain ⟨i0, hi, hz0, hz1, hz2⟩ := info_parts Tryz.info32
 go_enter Tryz.func79, Tryz.ntmps79
 go_wp2_with fail
 obtain ⟨w0, hw0⟩ : ∃ w0, w0 = (w.alloc (.cells #[.bool g, .slice A xs.length c] 25)).alloc (.cells #[.bool false, .slice none 0 0] 25) := ⟨_, rfl⟩
 rw [← hw0] at b0 b1 k0 ⊢
 clear hw0
 have RW : Hid (∀ W (_ : Below w0.heap.size w0 W), Rd W w.heap.size A (u32s xs)) := fun W hW => hr.below (bst k0 hW nl9)
 have B0 := hi9 b0
 have B1 := hi9 b1
 have K0 := hi9 k0
 have s0 : w.heap.size ≤ w0.heap.size := k0.size
 obtain ⟨p0, p1, _, _⟩ := b0.two
 obtain ⟨q0, q1, q2, q3⟩ := b1.two
 have n1 : w.heap.size ≠ w.heap.size + 1 := by omega
 have n2 : w.heap.size + 1 ≠ w.heap.size := by omega
 have q8 : w.heap.size < w0.heap.size := b0.lt
 have q9 : w.heap.size + 1 < w0.heap.size := b1.lt
 clear b0 b1 k0 hr
 go_region_held3 (fun W => W.cell? ⟨w.heap.size, 0, none⟩ = some (.bool g) ∧ W.cell? ⟨w.heap.size, 1, none⟩ = some (.slice A xs.length c)) (go_keep) (first
   | (refine step_app rfl (.tmp 5) (.tmp 7) 23 rfl 50 i0 (.int .u32 0) 4 Tryz.underlying23 hi hz0 hz1 hz2 rfl w0.heap.size 0 A xs.length c (by simp [Act.eval]) (by simp [Act.eval]) [] (u32s xs) w.heap.size (by first | exact Blk.new_ rfl | exact (Blk.new_ rfl).drew | exact (Blk.new_ rfl).drewN _) rfl (RW.out _ (by first | exact bal br9 nl9 _ | exact bdw (bal br9 nl9 _) | exact bdn (bal br9 nl9 _) _)) (u32s_length _) (one_u32s _) (by omega) (by omega) ?_; intro v' w1 hown hgr; obtain ⟨A', c', rfl, hcap, hrs⟩ := own_rs hown; have j1 : Below w0.heap.size w0 w1 := (by first | exact (bdw (bal br9 nl9 _)).trans (below_grown hgr nl9 (by simp)) | exact (bal br9 nl9 _).trans (below_grown hgr nl9 (by simp)) | exact (bdn (bal br9 nl9 _) _).trans (below_grown hgr nl9 (by simp))); obtain ⟨x0, x1, _, _⟩ := (B0.out.below j1 B0.out.lt).two; obtain ⟨y0, y1, y2, y3⟩ := (B1.out.below j1 B1.out.lt).two))
 all_goals
  go_wp2_with fail
  have hB := B1.out.below j1 B1.out.lt
  have hrs2 := (hrs.var2 hB (.bool g) (.slice A' xs.length c')).mono s0
  refine bodyPost_ret (results_cell_row rfl _ _ (w.heap.size + 1) 25 _ (0, 0) _ rfl (blk_pair hB _ _) Tryz.underlying25 rfl (by kernel_rfl)) rfl ⟨A', c', rfl, by omega, ?_, bsc (bsc (bst K0.out j1 nl9) (by omega) _) (by omega) _⟩
  exact hrs2
end
section
open Go.RowKit
structure QB (q : Rat) (K : Nat) : Prop where
 num : q.num.natAbs < 4294967296 ^ K
 den : q.den < 4294967296 ^ K
theorem den_div (z y : Int) (hy : y ≠ 0) : ((Rat.divInt z y).den : Int) * (Int.gcd y z : Nat) = y.natAbs := by
 rw [Rat.den_divInt, if_neg hy]
 have h : Int.gcd y z ∣ y.natAbs := Int.gcd_dvd_natAbs_left ..
 rw [← Int.natCast_mul, Nat.div_mul_cancel h]
theorem num_div (z y : Int) (_ : y ≠ 0) : (Rat.divInt z y).num * (Int.gcd y z : Nat) = y.sign * z := by
 rw [Rat.num_divInt]
 have h : ((Int.gcd y z : Nat) : Int) ∣ y.sign * z := Int.dvd_mul_of_dvd_right (Int.gcd_dvd_right ..)
 exact Int.ediv_mul_cancel h
theorem qb_div {z y : Int} {K : Nat} (hy : y ≠ 0) (hz : z.natAbs < 4294967296 ^ K) (hd : y.natAbs < 4294967296 ^ K) : QB (Rat.divInt z y) K := by
 have hg : 0 < Int.gcd y z := Int.gcd_pos_of_ne_zero_left _ hy
 constructor
 ·have h := congrArg Int.natAbs (num_div z y hy)
  rw [Int.natAbs_mul, Int.natAbs_mul, Int.natAbs_sign_of_ne_zero hy, Nat.one_mul, Int.natAbs_natCast] at h
  exact Nat.lt_of_le_of_lt (by rw [← h]; exact Nat.le_mul_of_pos_right _ hg) hz
 ·have h := den_div z y hy
  rw [← Int.natCast_mul] at h
  have h2 := Int.ofNat.inj h
  exact Nat.lt_of_le_of_lt (by rw [← h2]; exact Nat.le_mul_of_pos_right _ hg) hd
theorem q_self (q : Rat) : q = Rat.divInt q.num q.den := (Rat.num_divInt_den q).symm
theorem q_den (q : Rat) : ((q.den : Nat) : Int) ≠ 0 := by have := q.den_nz; omega
theorem pow_mono {K J : Nat} (h : K ≤ J) : 4294967296 ^ K ≤ 4294967296 ^ J := Nat.pow_le_pow_right (by omega) h
theorem QB.up {q : Rat} {K J : Nat} (h : QB q K) (hJ : K ≤ J) : QB q J := ⟨Nat.lt_of_lt_of_le h.num (pow_mono hJ), Nat.lt_of_lt_of_le h.den (pow_mono hJ)⟩
theorem mul_lt_b {x y K J : Nat} (h : x < 4294967296 ^ K) (h2 : y < 4294967296 ^ J) : x * y < 4294967296 ^ (K + J) := by
 rw [Nat.pow_add]
 exact Nat.mul_lt_mul'' h h2
theorem QB.mul {q r : Rat} {K J : Nat} (h : QB q K) (h2 : QB r J) : QB (q * r) (K + J) := by
 have e : q * r = Rat.divInt (q.num * r.num) (q.den * r.den : Int) := by
  conv => lhs; rw [q_self q, q_self r]
  rw [Rat.divInt_mul_divInt]
 rw [e]
 have h0 : ((q.den : Int) * r.den) ≠ 0 := Int.mul_ne_zero (q_den q) (q_den r)
 refine qb_div h0 ?_ ?_
 ·rw [Int.natAbs_mul]; exact mul_lt_b h.num h2.num
 ·rw [Int.natAbs_mul]; exact mul_lt_b h.den h2.den
theorem QB.add {q r : Rat} {K J : Nat} (h : QB q K) (h2 : QB r J) : QB (q + r) (K + J + 1) := by
 have e : q + r = Rat.divInt (q.num * r.den + r.num * q.den) (q.den * r.den : Int) := by
  conv => lhs; rw [q_self q, q_self r]
  rw [Rat.divInt_add_divInt _ _ (q_den q) (q_den r)]
 rw [e]
 have h0 : ((q.den : Int) * r.den) ≠ 0 := Int.mul_ne_zero (q_den q) (q_den r)
 have a1 : (q.num * r.den).natAbs < 4294967296 ^ (K + J) := by rw [Int.natAbs_mul]; exact mul_lt_b h.num h2.den
 have a2 : (r.num * q.den).natAbs < 4294967296 ^ (K + J) := by rw [Int.natAbs_mul, Nat.add_comm K J]; exact mul_lt_b h2.num h.den
 have e2 : 4294967296 ^ (K + J + 1) = 4294967296 ^ (K + J) * 4294967296 := Nat.pow_succ ..
 refine qb_div h0 ?_ ?_
 ·generalize 4294967296 ^ (K + J) = b at *
  omega
 ·exact Nat.lt_of_lt_of_le (by rw [Int.natAbs_mul]; exact mul_lt_b h.den h2.den) (pow_mono (Nat.le_succ _))
theorem QB.neg {q : Rat} {K : Nat} (h : QB q K) : QB (-q) K := ⟨by rw [Rat.neg_num, Int.natAbs_neg]; exact h.num, by rw [Rat.neg_den]; exact h.den⟩
theorem QB.sub {q r : Rat} {K J : Nat} (h : QB q K) (h2 : QB r J) : QB (q - r) (K + J + 1) := by
 rw [Rat.sub_eq_add_neg]; exact h.add h2.neg
theorem div_add {z y x v : Int} (hy : y ≠ 0) (hv : v ≠ 0) : Rat.divInt (z * v + x * y) (y * v) = Rat.divInt z y + Rat.divInt x v := (Rat.divInt_add_divInt z x hy hv).symm
theorem div_mul (z y x v : Int) : Rat.divInt (z * x) (y * v) = Rat.divInt z y * Rat.divInt x v := (Rat.divInt_mul_divInt z x).symm
theorem div_neg (z y : Int) : Rat.divInt (-z) y = - Rat.divInt z y := (Rat.neg_divInt z y).symm
theorem QB.inv {q : Rat} {K : Nat} (h : QB q K) (h0 : q ≠ 0) : QB q⁻¹ K := by
 have hn : q.num ≠ 0 := fun e => h0 (Rat.num_eq_zero.1 e)
 rw [Rat.inv_def]
 exact qb_div hn (by exact h.den) h.num
theorem up_sign {z y : Int} (hy : y ≠ 0) : upN z y = y.sign * z := by
 unfold upN
 rcases sign_cases y with ⟨a, b⟩ | ⟨a, b⟩ | ⟨a, b⟩
 ·exact absurd a hy
 ·rw [b, if_pos a]; omega
 ·rw [b, if_neg (by omega)]; omega
theorem lowG_eq {z y : Int} (hy : y ≠ 0) : lowG z y = Int.gcd y z := by
 unfold lowG upD
 rw [up_sign hy]
 unfold Int.gcd
 rw [Int.natAbs_natCast, Int.natAbs_mul, Int.natAbs_sign_of_ne_zero hy, Nat.one_mul]
theorem lowN_q {z y : Int} (hy : y ≠ 0) : lowN z y = (Rat.divInt z y).num := by
 have hg : 0 < Int.gcd y z := Int.gcd_pos_of_ne_zero_left _ hy
 unfold lowN
 rw [lowG_eq hy, up_sign hy, ← num_div z y hy]
 exact Int.mul_tdiv_cancel _ (by omega)
theorem lowD_q {z y : Int} (hy : y ≠ 0) : lowD z y = ((Rat.divInt z y).den : Int) := by
 have hg : 0 < Int.gcd y z := Int.gcd_pos_of_ne_zero_left _ hy
 unfold lowD upD
 rw [lowG_eq hy, ← den_div z y hy]
 exact Int.mul_tdiv_cancel _ (by omega)
noncomputable def nd (n : Nat) : List Nat := Classical.epsilon fun xs => Num 4294967296 xs n
theorem nd_eq {n : Nat} {xs : List Nat} (h : Num 4294967296 xs n) : nd n = xs := Num.unique (by omega) (Classical.epsilon_spec (p := fun xs => Num 4294967296 xs n) ⟨xs, h⟩) h
def Keep (B : Nat) (w : World) (A : Option Addr) (xs : List Nat) : Prop := xs ≠ [] → ∃ b off, A = some ⟨b, off, none⟩ ∧ (b < B ∨ ∃ L, Blk w b 50 L)
def IX (B : Nat) (w : World) (p q : Value) (g : Bool) (xs : List Nat) (z : Int) (K : Nat) : Prop := ∃ A c, p = .bool g ∧ q = .slice A xs.length c ∧ Zh w g A c xs z K ∧ Keep B w A xs
def IV (B : Nat) (w : World) (p q : Value) (z : Int) (K : Nat) : Prop := ∃ g xs, IX B w p q g xs z K
def IN (w : World) (B : Nat) (p q : Value) (z : Int) : Prop := ∃ A c, p = .bool (isNeg z) ∧ q = .slice A (nd z.natAbs).length c ∧ Num 4294967296 (nd z.natAbs) z.natAbs ∧ Res w B 50 A c (u32s (nd z.natAbs))
def IOz (w w' : World) (z : Int) (e : Ending) : Prop := ∃ (g : Bool) (A : Option Addr) (m c : Nat), e = .returned (.agg #[.bool g, .slice A m c]) ∧ IN w' w.heap.size (.bool g) (.slice A m c) z ∧ Below w.heap.size w w'
section
variable {B B2 : Nat} {w w' : World} {A A2 : Option Addr} {p q p2 q2 : Value} {g g2 : Bool} {c c2 K J : Nat} {xs ys : List Nat} {z y : Int} {e : Ending}
theorem IX.next (h : IX B w p q g xs z K) (hb : Below w.heap.size w w') : IX B w' p q g xs z K := by
 obtain ⟨A, c, e1, e2, hz, hk⟩ := h
 refine ⟨A, c, e1, e2, hz.next hb, fun hn => ?_⟩
 obtain ⟨b, off, e3, h3⟩ := hk hn
 exact ⟨b, off, e3, h3.imp id fun ⟨L, hL⟩ => ⟨L, hL.below hb hL.lt⟩⟩
theorem IX.up (h : IX B w p q g xs z K) (hB : B ≤ B2) : IX B2 w p q g xs z K := by
 obtain ⟨A, c, e1, e2, hz, hk⟩ := h
 refine ⟨A, c, e1, e2, hz, fun hn => ?_⟩
 obtain ⟨b, off, e3, h3⟩ := hk hn
 exact ⟨b, off, e3, h3.imp (fun h => Nat.lt_of_lt_of_le h hB) id⟩
theorem ne_nil_u {xs : List Nat} (h : xs ≠ []) : u32s xs ≠ [] := fun e => h (by
 have := u32s_length xs
 rw [e] at this
 exact List.eq_nil_of_length_eq_zero this.symm)
theorem IX.of_zh (h : Zh w g A c xs z K) : IX w.heap.size w (.bool g) (.slice A xs.length c) g xs z K := ⟨A, c, rfl, rfl, h, fun hn => by
 obtain ⟨b, off, e3, h3, _⟩ := h.hv.rd (ne_nil_u hn)
 exact ⟨b, off, e3, Or.inl h3⟩⟩
theorem IX.enter (h : IX B w p q g xs z K) : IX w.heap.size w p q g xs z K := by
 obtain ⟨A, c, rfl, rfl, hz, hk⟩ := h
 exact IX.of_zh hz
theorem IX.var (h : IX B w p q g xs z K) {k i : Nat} {t : TypeId} {L : List Value} (hB : B ≤ k) (hk : Blk w k t L) (ht : t ≠ 50) (u : Value) : IX B (w.setCell ⟨k, i, none⟩ u) p q g xs z K := by
 obtain ⟨A, c, e1, e2, hz, hkp⟩ := h
 have far : ∀ b : Nat, (b < B ∨ ∃ L, Blk w b 50 L) → b ≠ k := fun b hb => by
  rintro rfl
  rcases hb with hb | ⟨L2, hL⟩
  ·omega
  ·unfold Blk at hL hk
   rw [hk] at hL
   have e9 := Option.some.inj hL
   injection e9 with _ e8 _
   exact ht e8
 refine ⟨A, c, e1, e2, ⟨⟨hz.hv.dig, hz.hv.val_, fun hn => ?_, hz.hv.cap, hz.hv.len⟩, hz.sg⟩, fun hn => ?_⟩
 ·have hn2 : xs ≠ [] := fun e => hn (by rw [e]; rfl)
  obtain ⟨b, off, e3, h3⟩ := hkp hn2
  obtain ⟨b2, off2, e4, h4, h5⟩ := hz.hv.rd hn
  rw [e3] at e4
  cases e4
  refine ⟨b, off, e3, by simpa [World.setCell] using h4, fun j v hv => ?_⟩
  exact (World.cell?_setCell_far _ _ _ _ (Ne.symm (far b h3))).trans (h5 j v hv)
 ·obtain ⟨b, off, e3, h3⟩ := hkp hn
  exact ⟨b, off, e3, h3.imp id fun ⟨L2, hL⟩ => ⟨L2, hL.far (p := ⟨k, i, none⟩) (far b (Or.inr ⟨L2, hL⟩)) u⟩⟩
theorem IX.iv (h : IX B w p q g xs z K) : IV B w p q z K := ⟨g, xs, h⟩
theorem IV.next (h : IV B w p q z K) (hb : Below w.heap.size w w') : IV B w' p q z K := let ⟨g, xs, h⟩ := h; ⟨g, xs, h.next hb⟩
theorem IV.up (h : IV B w p q z K) (hB : B ≤ B2) : IV B2 w p q z K := let ⟨g, xs, h⟩ := h; ⟨g, xs, h.up hB⟩
theorem IV.enter (h : IV B w p q z K) : IV w.heap.size w p q z K := let ⟨g, xs, h⟩ := h; ⟨g, xs, h.enter⟩
theorem IV.var (h : IV B w p q z K) {k i : Nat} {t : TypeId} {L : List Value} (hB : B ≤ k) (hk : Blk w k t L) (ht : t ≠ 50) (u : Value) : IV B (w.setCell ⟨k, i, none⟩ u) p q z K := let ⟨g, xs, h⟩ := h; ⟨g, xs, h.var hB hk ht u⟩
theorem IV.of_zh (h : Zh w g A c xs z K) : IV w.heap.size w (.bool g) (.slice A xs.length c) z K := (IX.of_zh h).iv
theorem IV.open_ (h : IV B w p q z K) : ∃ g A c xs, p = .bool g ∧ q = .slice A xs.length c ∧ Zh w g A c xs z K := let ⟨g, xs, A, c, e1, e2, hz, _⟩ := h; ⟨g, A, c, xs, e1, e2, hz⟩
theorem IV.lt (h : IV B w p q z K) : z.natAbs < 4294967296 ^ K := let ⟨_, _, _, _, _, _, hz⟩ := h.open_; hz.lt
theorem IV.to (h : IV B w p q z K) (e : z = y) : IV B w p q y K := e ▸ h
theorem IN.next (h : IN w B p q z) (hb : Below w.heap.size w w') : IN w' B p q z := let ⟨A, c, e1, e2, n, r⟩ := h; ⟨A, c, e1, e2, n, r.below hb nl9⟩
theorem IN.mono (h : IN w B p q z) (hB : B2 ≤ B) : IN w B2 p q z := let ⟨A, c, e1, e2, n, r⟩ := h; ⟨A, c, e1, e2, n, r.mono hB⟩
theorem IN.to (h : IN w B p q z) (e : z = y) : IN w B p q y := e ▸ h
theorem IN.var (h : IN w B p q z) {k i : Nat} {t : TypeId} {L : List Value} (hk : Blk w k t L) (ht : t ≠ 50) (u : Value) : IN (w.setCell ⟨k, i, none⟩ u) B p q z := by
 obtain ⟨A, c, e1, e2, n, r⟩ := h
 refine ⟨A, c, e1, e2, n, r.1, r.2.1, fun hn => ?_⟩
 obtain ⟨b, rest, e, hb, hL, hc⟩ := r.2.2 hn
 refine ⟨b, rest, e, hb, hL.far (p := ⟨k, i, none⟩) ?_ _, hc⟩
 rintro rfl
 unfold Blk at hL hk
 rw [hk] at hL
 have e9 := Option.some.inj hL
 injection e9 with _ e8 _
 exact ht e8
theorem IN.ix (h : IN w B p q z) (hK : z.natAbs < 4294967296 ^ K) : IX B2 w p q (isNeg z) (nd z.natAbs) z K := by
 obtain ⟨A, c, e1, e2, n, r⟩ := h
 refine ⟨A, c, e1, e2, Zh.of n r hK, fun hn => ?_⟩
 obtain ⟨b, rest, e, hb, hL, hc⟩ := r.2.2 (ne_nil_u hn)
 exact ⟨b, 0, e, Or.inr ⟨_, hL⟩⟩
theorem IN.iv (h : IN w B p q z) (hK : z.natAbs < 4294967296 ^ K) : IV B2 w p q z K := (h.ix hK).iv
theorem IN.of {zs : List Nat} (n : Num 4294967296 zs z.natAbs) (r : Res w B 50 A c (u32s zs)) : IN w B (.bool (isNeg z)) (.slice A zs.length c) z := by
 have e := nd_eq n
 exact ⟨A, c, rfl, by rw [e], by rw [e]; exact n, by rw [e]; exact r⟩
theorem IN.open_ (h : IN w B p q z) : ∃ A c zs, p = .bool (isNeg z) ∧ q = .slice A zs.length c ∧ Num 4294967296 zs z.natAbs ∧ Res w B 50 A c (u32s zs) := let ⟨A, c, e1, e2, n, r⟩ := h; ⟨A, c, _, e1, e2, n, r⟩
theorem IN.zero : IN w B (.bool false) (.slice none 0 0) 0 := IN.of (z := 0) (zs := []) (Num.zero_ _) Res.none_
theorem ZOut.io (h : ZOut w w' z e) : IOz w w' z e := by
 obtain ⟨zs, A', c', rfl, n, r, hb⟩ := h
 exact ⟨_, _, _, _, rfl, IN.of n r, hb⟩
end
structure Tb (w : World) : Prop where
 tab : Tab64 w
 lt : 1 < w.heap.size
theorem Tb.next {w w' : World} (h : Tb w) (hb : Below w.heap.size w w') : Tb w' := ⟨h.tab.below hb h.lt, Nat.lt_of_lt_of_le h.lt hb.size⟩
structure FV (B : Nat) (w : World) (a b c d : Value) (z y : Int) (K : Nat) : Prop where
 num : IV B w a b z K
 den : IV B w c d y K
def QV (B : Nat) (w : World) (a b c d : Value) (q : Rat) (K : Nat) : Prop := ∃ z y, FV B w a b c d z y K ∧ y ≠ 0 ∧ Rat.divInt z y = q
structure FN (w : World) (B : Nat) (a b c d : Value) (n m : Int) : Prop where
 num : IN w B a b n
 den : IN w B c d m
def RO (w w' : World) (n m : Int) (e : Ending) : Prop := ∃ (s0 : Bool) (s1 : Option Addr) (s2 s3 : Nat) (s4 : Bool) (s5 : Option Addr) (s6 s7 : Nat), e = .returned (.agg #[.bool s0, .slice s1 s2 s3, .bool s4, .slice s5 s6 s7]) ∧ FN w' w.heap.size (.bool s0) (.slice s1 s2 s3) (.bool s4) (.slice s5 s6 s7) n m ∧ Below w.heap.size w w'
def RE (w w' : World) (n m er : Int) (e : Ending) : Prop := ∃ (s0 : Bool) (s1 : Option Addr) (s2 s3 : Nat) (s4 : Bool) (s5 : Option Addr) (s6 s7 : Nat), e = .returned (.tuple #[.agg #[.bool s0, .slice s1 s2 s3, .bool s4, .slice s5 s6 s7], .int .i64 er]) ∧ FN w' w.heap.size (.bool s0) (.slice s1 s2 s3) (.bool s4) (.slice s5 s6 s7) n m ∧ Below w.heap.size w w'
section
variable {B B2 : Nat} {w w' : World} {a b c d a2 b2 c2 d2 : Value} {K J : Nat} {z y n m er : Int} {q r : Rat} {e : Ending}
theorem FV.next (h : FV B w a b c d z y K) (hb : Below w.heap.size w w') : FV B w' a b c d z y K := ⟨h.num.next hb, h.den.next hb⟩
theorem FV.enter (h : FV B w a b c d z y K) : FV w.heap.size w a b c d z y K := ⟨h.num.enter, h.den.enter⟩
theorem FV.up (h : FV B w a b c d z y K) (hB : B ≤ B2) : FV B2 w a b c d z y K := ⟨h.num.up hB, h.den.up hB⟩
theorem FV.var (h : FV B w a b c d z y K) {k i : Nat} {t : TypeId} {L : List Value} (hB : B ≤ k) (hk : Blk w k t L) (ht : t ≠ 50) (u : Value) : FV B (w.setCell ⟨k, i, none⟩ u) a b c d z y K := ⟨h.num.var hB hk ht u, h.den.var hB hk ht u⟩
theorem QV.next (h : QV B w a b c d q K) (hb : Below w.heap.size w w') : QV B w' a b c d q K := let ⟨z, y, h, k⟩ := h; ⟨z, y, h.next hb, k⟩
theorem QV.enter (h : QV B w a b c d q K) : QV w.heap.size w a b c d q K := let ⟨z, y, h, k⟩ := h; ⟨z, y, h.enter, k⟩
theorem QV.up (h : QV B w a b c d q K) (hB : B ≤ B2) : QV B2 w a b c d q K := let ⟨z, y, h, k⟩ := h; ⟨z, y, h.up hB, k⟩
theorem QV.var (h : QV B w a b c d q K) {k i : Nat} {t : TypeId} {L : List Value} (hB : B ≤ k) (hk : Blk w k t L) (ht : t ≠ 50) (u : Value) : QV B (w.setCell ⟨k, i, none⟩ u) a b c d q K := let ⟨z, y, h, k⟩ := h; ⟨z, y, h.var hB hk ht u, k⟩
theorem QV.to (h : QV B w a b c d q K) (e : q = r) : QV B w a b c d r K := e ▸ h
theorem QV.qb (h : QV B w a b c d q K) : QB q K := by
 obtain ⟨z, y, h, h0, rfl⟩ := h
 exact qb_div h0 h.num.lt h.den.lt
theorem FN.next (h : FN w B a b c d n m) (hb : Below w.heap.size w w') : FN w' B a b c d n m := ⟨h.num.next hb, h.den.next hb⟩
theorem FN.mono (h : FN w B a b c d n m) (hB : B2 ≤ B) : FN w B2 a b c d n m := ⟨h.num.mono hB, h.den.mono hB⟩
theorem FN.var (h : FN w B a b c d n m) {k i : Nat} {t : TypeId} {L : List Value} (hk : Blk w k t L) (ht : t ≠ 50) (u : Value) : FN (w.setCell ⟨k, i, none⟩ u) B a b c d n m := ⟨h.num.var hk ht u, h.den.var hk ht u⟩
theorem FN.to {n2 m2 : Int} (h : FN w B a b c d n m) (e : n = n2) (e2 : m = m2) : FN w B a b c d n2 m2 := e ▸ e2 ▸ h
theorem FN.qv (h : FN w B a b c d q.num q.den) (hq : QB q K) : QV B2 w a b c d q K := ⟨q.num, q.den, ⟨h.num.iv hq.num, h.den.iv (by rw [Int.natAbs_natCast]; exact hq.den)⟩, q_den q, (q_self q).symm⟩
theorem ROut.ro (h : ROut w w' n m e) : RO w w' n m e := by
 obtain ⟨zs, A1, c1, ys, A2, c2, rfl, n1, n2, r1, r2, hb⟩ := h
 exact ⟨_, _, _, _, _, _, _, _, rfl, ⟨IN.of n1 r1, IN.of n2 r2⟩, hb⟩
theorem RAns.re (h : RAns w w' n m er e) : RE w w' n m er e := by
 obtain ⟨zs, A1, c1, ys, A2, c2, rfl, n1, n2, r1, r2, hb⟩ := h
 exact ⟨_, _, _, _, _, _, _, _, rfl, ⟨IN.of n1 r1, IN.of n2 r2⟩, hb⟩
theorem RO.to {n2 m2 : Int} (h : RO w w' n m e) (e1 : n = n2) (e2 : m = m2) : RO w w' n2 m2 e := e1 ▸ e2 ▸ h
theorem RE.to {n2 m2 : Int} (h : RE w w' n m er e) (e1 : n = n2) (e2 : m = m2) : RE w w' n2 m2 er e := e1 ▸ e2 ▸ h
theorem IOz.to {w w' : World} {z y : Int} {e : Ending} (h : IOz w w' z e) (e9 : z = y) : IOz w w' y e := e9 ▸ h
end
theorem IV.zadd {w : World} {B B2 : Nat} {p q p2 q2 : Value} {z y : Int} {K J : Nat} (h : IV B w p q z K) (h2 : IV B2 w p2 q2 y J) (hK : K ≤ 67108864) (hJ : J ≤ 67108864) : Calls Tryz.prog 84 #[.agg #[p, q], .agg #[p2, q2]] w fun e w' => IOz w w' (z + y) e := by
 obtain ⟨g, A, c, xs, rfl, rfl, k⟩ := h.open_
 obtain ⟨g2, A2, c2, ys, rfl, rfl, k2⟩ := h2.open_
 exact (k.add k2 hK hJ).mono fun e w' r => r.io
theorem IV.zmul {w : World} {B B2 : Nat} {p q p2 q2 : Value} {z y : Int} {K J : Nat} (h : IV B w p q z K) (h2 : IV B2 w p2 q2 y J) (hK : K ≤ 67108864) (hJ : J ≤ 67108864) : Calls Tryz.prog 66 #[.agg #[p, q], .agg #[p2, q2]] w fun e w' => IOz w w' (z * y) e := by
 obtain ⟨g, A, c, xs, rfl, rfl, k⟩ := h.open_
 obtain ⟨g2, A2, c2, ys, rfl, rfl, k2⟩ := h2.open_
 exact (k.mul k2 hK hJ).mono fun e w' r => r.io
theorem IV.zsign {w : World} {B : Nat} {p q : Value} {z : Int} {K : Nat} (h : IV B w p q z K) (hK : K ≤ 67108864) : Calls Tryz.prog 63 #[.agg #[p, q]] w fun e w' => e = .returned (.int .i64 z.sign) ∧ Below w.heap.size w w' := by
 obtain ⟨g, A, c, xs, rfl, rfl, k⟩ := h.open_
 exact k.sign hK
theorem IV.isOne {w : World} {B : Nat} {p q : Value} {z : Int} {K : Nat} (h : IV B w p q z K) (hK : K ≤ 67108864) : Calls Tryz.prog 83 #[.agg #[p, q]] w fun e w' => e = .returned (.bool (decide (z = 1))) ∧ Below w.heap.size w w' := by
 obtain ⟨g, A, c, xs, rfl, rfl, k⟩ := h.open_
 exact isone_any k hK
theorem IV.radd {w : World} {B B2 : Nat} {p q p2 q2 : Value} {z y : Int} {K J : Nat} (h : IV B w p q z K) (h2 : IV B2 w p2 q2 y J) (hK : K ≤ 67108863) (hJ : J ≤ 67108863) : Calls Tryz.prog 87 #[.agg #[p, q], .agg #[p2, q2]] w fun e w' => IOz w w' (z + y) e := by
 obtain ⟨g, A, c, xs, rfl, rfl, k⟩ := h.open_
 obtain ⟨g2, A2, c2, ys, rfl, rfl, k2⟩ := h2.open_
 exact (k.radd k2 hK hJ).mono fun e w' r => r.io
theorem IV.rmul {w : World} {B B2 : Nat} {p q p2 q2 : Value} {z y : Int} {K J : Nat} (h : IV B w p q z K) (h2 : IV B2 w p2 q2 y J) (hK : K + J ≤ 67108864) : Calls Tryz.prog 88 #[.agg #[p, q], .agg #[p2, q2]] w fun e w' => IOz w w' (z * y) e := by
 obtain ⟨g, A, c, xs, rfl, rfl, k⟩ := h.open_
 obtain ⟨g2, A2, c2, ys, rfl, rfl, k2⟩ := h2.open_
 exact (k.rmul k2 hK).mono fun e w' r => r.io
theorem IV.rneg {w : World} {B : Nat} {p q : Value} {z : Int} {K : Nat} (h : IV B w p q z K) (hK : K ≤ 67108864) : Calls Tryz.prog 86 #[.agg #[p, q]] w fun e w' => IOz w w' (-z) e := by
 obtain ⟨g, A, c, xs, rfl, rfl, k⟩ := h.open_
 exact (k.rneg hK).mono fun e w2 r => r.io
theorem IV.rsign {w : World} {B : Nat} {p q : Value} {z : Int} {K : Nat} (h : IV B w p q z K) (hK : K ≤ 67108864) : Calls Tryz.prog 71 #[.agg #[p, q]] w fun e w' => e = .returned (.int .i64 z.sign) ∧ Below w.heap.size w w' := by
 obtain ⟨g, A, c, xs, rfl, rfl, k⟩ := h.open_
 exact k.rsign hK
theorem io_of (n : Int) (h1 : -9223372036854775808 ≤ n) (h2 : n ≤ 9223372036854775807) (w : World) : Calls Tryz.prog 75 #[.int .i64 n] w fun e w' => IOz w w' n e := (zof_any n h1 h2 w).mono fun _ _ h => h.io
theorem io_rof (n : Int) (h1 : -9223372036854775808 ≤ n) (h2 : n ≤ 9223372036854775807) (w : World) : Calls Tryz.prog 76 #[.int .i64 n] w fun e w' => IOz w w' n e := (rzof_any n h1 h2 w).mono fun _ _ h => h.io
theorem IX.rsame {w : World} {B B2 : Nat} {p q p2 q2 : Value} {g : Bool} {xs : List Nat} {z y : Int} {K J : Nat} (h : IX B w p q g xs z K) (h2 : IX B2 w p2 q2 g xs y J) (hK : K ≤ 281474976710656) : Calls Tryz.prog 22 #[.agg #[p, q], .agg #[p2, q2]] w fun e w' => e = .returned (.bool true) ∧ Below w.heap.size w w' := by
 obtain ⟨A, c, rfl, rfl, k, _⟩ := h
 obtain ⟨A2, c2, rfl, rfl, k2, _⟩ := h2
 exact zsame_yes g k.hv.rd k2.hv.rd (by have := k.hv.len; omega)
theorem IX.rcopy {w : World} {B : Nat} {p q : Value} {g : Bool} {xs : List Nat} {z : Int} {K : Nat} (h : IX B w p q g xs z K) (hK : K ≤ 67108864) : Calls Tryz.prog 79 #[.agg #[p, q]] w fun e w' => ∃ A' c', e = .returned (.agg #[.bool g, .slice A' xs.length c']) ∧ IX 0 w' (.bool g) (.slice A' xs.length c') g xs z K ∧ Below w.heap.size w w' := by
 obtain ⟨A, c, rfl, rfl, k, _⟩ := h
 refine (copy_any k.hv.rd (by have := k.hv.len; omega)).mono ?_
 rintro e w' ⟨A', c', rfl, hc, hr, hb⟩
 refine ⟨A', c', rfl, ⟨A', c', rfl, rfl, ⟨⟨k.hv.dig, k.hv.val_, hr.rd, hc, k.hv.len⟩, k.sg⟩, fun hn => ?_⟩, hb⟩
 obtain ⟨b, rest, e, _, hL⟩ := hr (ne_nil_u hn)
 exact ⟨b, 0, e, Or.inr ⟨_, hL⟩⟩
theorem QV.qnorm {w : World} {B : Nat} {a b c d : Value} {q : Rat} {K : Nat} (h : QV B w a b c d q K) (hK : K ≤ 33554431) (hT : Tb w) : Calls Tryz.prog 12 #[.agg #[a, b, c, d]] w fun e w' => RE w w' q.num q.den 0 e := by
 obtain ⟨z, y, h, h0, rfl⟩ := h
 obtain ⟨g, A, c1, xs, rfl, rfl, k⟩ := h.num.open_
 obtain ⟨g2, A2, c2, ys, rfl, rfl, k2⟩ := h.den.open_
 exact (ratnorm_good k k2 hK h0 hT.tab hT.lt).mono fun e w' r => r.re.to (lowN_q h0) (lowD_q h0)
theorem QV.qneg {w : World} {B : Nat} {a b c d : Value} {q : Rat} {K : Nat} (h : QV B w a b c d q K) (hK : K ≤ 33554431) (hT : Tb w) : Calls Tryz.prog 28 #[.agg #[a, b, c, d]] w fun e w' => RE w w' (-q).num (-q).den 0 e := by
 obtain ⟨z, y, h, h0, rfl⟩ := h
 obtain ⟨g, A, c1, xs, rfl, rfl, k⟩ := h.num.open_
 obtain ⟨g2, A2, c2, ys, rfl, rfl, k2⟩ := h.den.open_
 exact (ratneg_good k k2 hK h0 hT.tab hT.lt).mono fun e w' r => r.re.to ((lowN_q h0).trans (by rw [div_neg])) ((lowD_q h0).trans (by rw [div_neg]))
theorem QV.qmul {w : World} {B B2 : Nat} {a b c d a2 b2 c2 d2 : Value} {q r : Rat} {K : Nat} (h : QV B w a b c d q K) (h' : QV B2 w a2 b2 c2 d2 r K) (hK : K ≤ 16777215) (hT : Tb w) : Calls Tryz.prog 31 #[.agg #[a, b, c, d], .agg #[a2, b2, c2, d2]] w fun e w' => RE w w' (q * r).num (q * r).den 0 e := by
 obtain ⟨z, y, h, h0, rfl⟩ := h
 obtain ⟨g, A, c1, xs, rfl, rfl, k⟩ := h.num.open_
 obtain ⟨g2, A2, c2, ys, rfl, rfl, k2⟩ := h.den.open_
 obtain ⟨x, v, h', h0', rfl⟩ := h'
 obtain ⟨g3, A3, c3, us, rfl, rfl, k3⟩ := h'.num.open_
 obtain ⟨g4, A4, c4, vs, rfl, rfl, k4⟩ := h'.den.open_
 exact (ratmul_good k k2 k3 k4 hK h0 h0' hT.tab hT.lt).mono fun e w' r => r.re.to ((lowN_q (Int.mul_ne_zero h0 h0')).trans (by rw [div_mul])) ((lowD_q (Int.mul_ne_zero h0 h0')).trans (by rw [div_mul]))
theorem QV.rqneg {w : World} {B : Nat} {a b c d : Value} {q : Rat} {K : Nat} (h : QV B w a b c d q K) (hK : K ≤ 33554431)  : Calls Tryz.prog 32 #[.agg #[a, b, c, d]] w fun e w' => RO w w' (-q).num (-q).den e := by
 obtain ⟨z, y, h, h0, rfl⟩ := h
 obtain ⟨g, A, c1, xs, rfl, rfl, k⟩ := h.num.open_
 obtain ⟨g2, A2, c2, ys, rfl, rfl, k2⟩ := h.den.open_
 exact (rneg05_any k k2 hK h0).mono fun e w' r => r.ro.to ((lowN_q h0).trans (by rw [div_neg])) ((lowD_q h0).trans (by rw [div_neg]))
theorem QV.rqmul {w : World} {B B2 : Nat} {a b c d a2 b2 c2 d2 : Value} {q r : Rat} {K : Nat} (h : QV B w a b c d q K) (h' : QV B2 w a2 b2 c2 d2 r K) (hK : K ≤ 8388607)  : Calls Tryz.prog 35 #[.agg #[a, b, c, d], .agg #[a2, b2, c2, d2]] w fun e w' => RO w w' (q * r).num (q * r).den e := by
 obtain ⟨z, y, h, h0, rfl⟩ := h
 obtain ⟨g, A, c1, xs, rfl, rfl, k⟩ := h.num.open_
 obtain ⟨g2, A2, c2, ys, rfl, rfl, k2⟩ := h.den.open_
 obtain ⟨x, v, h', h0', rfl⟩ := h'
 obtain ⟨g3, A3, c3, us, rfl, rfl, k3⟩ := h'.num.open_
 obtain ⟨g4, A4, c4, vs, rfl, rfl, k4⟩ := h'.den.open_
 exact (rmul05_any k k2 k3 k4 hK h0 h0').mono fun e w' r => r.ro.to ((lowN_q (Int.mul_ne_zero h0 h0')).trans (by rw [div_mul])) ((lowD_q (Int.mul_ne_zero h0 h0')).trans (by rw [div_mul]))
theorem FV.norm_bad {w : World} {B : Nat} {a b c d : Value} {z : Int} {K : Nat} (h : FV B w a b c d z 0 K) (hK : K ≤ 33554431) : Calls Tryz.prog 12 #[.agg #[a, b, c, d]] w fun e w' => RE w w' 0 0 6 e := by
 obtain ⟨g, A, c1, xs, rfl, rfl, k⟩ := h.num.open_
 obtain ⟨g2, A2, c2, ys, rfl, rfl, k2⟩ := h.den.open_
 exact (ratnorm_bad k k2 hK rfl).mono fun e w' r => r.re
theorem FV.neg_bad {w : World} {B : Nat} {a b c d : Value} {z : Int} {K : Nat} (h : FV B w a b c d z 0 K) (hK : K ≤ 33554431) : Calls Tryz.prog 28 #[.agg #[a, b, c, d]] w fun e w' => RE w w' 0 0 6 e := by
 obtain ⟨g, A, c1, xs, rfl, rfl, k⟩ := h.num.open_
 obtain ⟨g2, A2, c2, ys, rfl, rfl, k2⟩ := h.den.open_
 exact (ratneg_bad k k2 hK rfl).mono fun e w' r => r.re
theorem FV.mul_bad {w : World} {B B2 : Nat} {a b c d a2 b2 c2 d2 : Value} {z y x v : Int} {K : Nat} (h : FV B w a b c d z y K) (h' : FV B2 w a2 b2 c2 d2 x v K) (hK : K ≤ 16777215) (h0 : y = 0 ∨ v = 0) : Calls Tryz.prog 31 #[.agg #[a, b, c, d], .agg #[a2, b2, c2, d2]] w fun e w' => RE w w' 0 0 6 e := by
 obtain ⟨g, A, c1, xs, rfl, rfl, k⟩ := h.num.open_
 obtain ⟨g2, A2, c2, ys, rfl, rfl, k2⟩ := h.den.open_
 obtain ⟨g3, A3, c3, us, rfl, rfl, k3⟩ := h'.num.open_
 obtain ⟨g4, A4, c4, vs, rfl, rfl, k4⟩ := h'.den.open_
 exact (ratmul_bad k k2 k3 k4 hK h0).mono fun e w' r => r.re
theorem FV.rmay {w : World} {B : Nat} {a b c d : Value} {z y : Int} {K : Nat} (h : FV B w a b c d z y K) (hK : K ≤ 67108864) : Calls Tryz.prog 16 #[.agg #[a, b, c, d]] w fun e w' => e = .returned (.bool (decide (y ≠ 0))) ∧ Below w.heap.size w w' := by
 obtain ⟨g, A, c1, xs, rfl, rfl, k⟩ := h.num.open_
 obtain ⟨g2, A2, c2, ys, rfl, rfl, k2⟩ := h.den.open_
 exact rmay_any k2 hK
theorem IV.lowest {w : World} {B B2 : Nat} {p q p2 q2 : Value} {z y : Int} {K : Nat} (h : IV B w p q z K) (h2 : IV B2 w p2 q2 y K) (hK : K ≤ 33554431) (hy : y ≠ 0) (hT : Tb w) : Calls Tryz.prog 60 #[.agg #[p, q], .agg #[p2, q2]] w fun e w' => RO w w' (Rat.divInt z y).num (Rat.divInt z y).den e := by
 obtain ⟨g, A, c, xs, rfl, rfl, k⟩ := h.open_
 obtain ⟨g2, A2, c2, ys, rfl, rfl, k2⟩ := h2.open_
 exact (lowest_any k k2 hK hy hT.tab hT.lt).mono fun e w' r => r.ro.to (lowN_q hy) (lowD_q hy)
theorem IV.rmake {w : World} {B B2 : Nat} {p q p2 q2 : Value} {z y : Int} {K : Nat} (h : IV B w p q z K) (h2 : IV B2 w p2 q2 y K) (hK : K ≤ 33554431) (hy : y ≠ 0) : Calls Tryz.prog 72 #[.agg #[p, q], .agg #[p2, q2]] w fun e w' => RO w w' (Rat.divInt z y).num (Rat.divInt z y).den e := by
 obtain ⟨g, A, c, xs, rfl, rfl, k⟩ := h.open_
 obtain ⟨g2, A2, c2, ys, rfl, rfl, k2⟩ := h2.open_
 exact (rmake_any k k2 hK hy).mono fun e w' r => r.ro.to (lowN_q hy) (lowD_q hy)
end
end Go.Proofs.YtbcphifjcaobfaaGreatDoor
