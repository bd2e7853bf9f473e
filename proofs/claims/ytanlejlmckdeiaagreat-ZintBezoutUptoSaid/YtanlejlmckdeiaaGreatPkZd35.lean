/- A word's rest by a product with (2^64 - 1) / p, as zint.Mod takes it: less than 2 p is left. The contract of zint.Mod: the number modulo a word that is not 0; nothing else but an error at 0. Conditions: at most 2^26 limbs. The contract of the reference's Copy; an append that is known whole; steps that keep limbs. No conditions beyond the sizes. -/
import Derived.Test.YtanlejlmckdeiaaGreatPkZd0
import Derived.Test.YtanlejlmckdeiaaGreatPkZd26
import Derived.Test.YtanlejlmckdeiaaGreatPkZd9
import Derived.Test.YtanlejlmckdeiaaGreatPkZd29
namespace Go.Proofs.YtanlejlmckdeiaaGreat
section
theorem mod_near {x p o q : Nat} (hx : x < 18446744073709551616) (hp : 0 < p) (ho : o = 18446744073709551615 / p) (hq : q = x * o / 18446744073709551616) :
    q * p ≤ x ∧ x < q * p + 2 * p := by
  have h1 : o * p ≤ 18446744073709551615 := by rw [ho]; exact Nat.div_mul_le_self _ _
  have h2 : 18446744073709551615 < o * p + p := by rw [ho]; exact Nat.lt_div_mul_add hp
  have h3 : q * 18446744073709551616 ≤ x * o := by rw [hq]; exact Nat.div_mul_le_self _ _
  have h4 : x * o < q * 18446744073709551616 + 18446744073709551616 := by rw [hq]; exact Nat.lt_div_mul_add (by decide)
  have e1 := Nat.mul_le_mul_right p h3
  have e2 := (Nat.mul_lt_mul_right hp).2 h4
  have e3 := Nat.mul_le_mul_left x h1
  have e4 := Nat.mul_le_mul_left x (show 18446744073709551616 ≤ o * p + p from h2)
  have e5 := (Nat.mul_lt_mul_right hp).2 hx
  rw [Nat.mul_right_comm, Nat.mul_assoc x o p] at e1
  rw [Nat.add_mul, Nat.mul_right_comm q, Nat.mul_assoc x o p] at e2
  rw [Nat.mul_add] at e4
  generalize x * (o * p) = X at e1 e2 e3 e4
  generalize q * p = Y at e1 e2
  generalize x * p = Z at e4 e5
  omega

theorem mod_rest {x p o q : Nat} (hx : x < 18446744073709551616) (hp : 0 < p) (ho : o = 18446744073709551615 / p) (hq : q = x * o / 18446744073709551616) :
    (x - q * p < p → x - q * p = x % p) ∧ (p ≤ x - q * p → x - q * p - p = x % p ∧ x - q * p - p < p) := by
  obtain ⟨a, b⟩ := mod_near hx hp ho hq
  have s : (x - q * p) % p = x % p := by
    rw [Nat.mul_comm q p] at a ⊢
    exact Nat.sub_mul_mod a
  refine ⟨fun h => by rw [← s, Nat.mod_eq_of_lt h], fun h => ?_⟩
  have l : x - q * p - p < p := by omega
  exact ⟨by rw [← s, Nat.mod_eq_sub_mod h, Nat.mod_eq_of_lt l], l⟩

theorem mod_digit (v d p W : Nat) : ((v % p) * W + d) % p = (d + W * v) % p := by
  rw [Nat.add_comm d, Nat.mul_comm W, Nat.add_mod, Nat.mul_mod, Nat.mod_mod, ← Nat.mul_mod, ← Nat.add_mod]
end
section
open Go.RowKit

theorem or_high (r d : Nat) (hr : r < 4294967296) (hd : d < 4294967296) : bits BinOp.or IntKind.u64 ((r : Int) * 4294967296) (d : Int) = ((d + 4294967296 * r : Nat) : Int) := by
  rw [show ((r : Int) * 4294967296) = ((r * 2 ^ 32 : Nat) : Int) from by omega, u64_or_nat _ _ (by omega) (by omega), or_shift d r 32 (by omega)]
theorem neg_emod9 (n p : Nat) (hp : 0 < p) : (-(n : Int)) % (p : Int) = if 0 < n % p then ((p - n % p : Nat) : Int) else 0 := by
  have h1 := Nat.div_add_mod n p
  have h2 := Nat.mod_lt n hp
  by_cases h : 0 < n % p
  · rw [if_pos h]
    refine (eu_of (a := -(n : Int)) (b := p) (q := -((n / p : Nat) : Int) - 1) ?_ (by omega) (by omega)).2
    have e : (n : Int) = (p : Int) * ((n / p : Nat) : Int) + ((n % p : Nat) : Int) := by rw [← Int.natCast_mul, ← Int.natCast_add, h1]
    rw [Int.mul_sub, Int.mul_neg, Int.mul_one, Int.natCast_sub (Nat.le_of_lt h2)]
    omega
  · rw [if_neg h]
    refine (eu_of (a := -(n : Int)) (b := p) (q := -((n / p : Nat) : Int)) ?_ (by omega) (by omega)).2
    have e : (n : Int) = (p : Int) * ((n / p : Nat) : Int) + ((n % p : Nat) : Int) := by rw [← Int.natCast_mul, ← Int.natCast_add, h1]
    rw [Int.mul_neg]
    omega

section
variable {w : World} {g : Bool} {A : Option Addr} {c K : Nat} {xs : List Nat} {z : Int}
theorem zmod_nought : Calls Tryz.prog 33 #[.agg #[.bool g, .slice A xs.length c], .int .u32 0] w fun e w' => e = .returned (.tuple #[.int .u32 0, .int .i64 1]) ∧ Below w.heap.size w w' := by
  go_enter Tryz.func33, Tryz.ntmps33
  go_wp2
  go_ret2
  exact ⟨rfl, bel_one _ _⟩

set_option maxHeartbeats 3200000 in
theorem zmod_any (h : Zh w g A c xs z K) (hK : K ≤ 67108864) (p : Nat) (hp0 : 0 < p) (hp : p < 4294967296) :
    Calls Tryz.prog 33 #[.agg #[.bool g, .slice A xs.length c], .int .u32 (p : Int)] w fun e w' => e = .returned (.tuple #[.int .u32 (z % (p : Int)), .int .i64 0]) ∧ Below w.heap.size w w' := by
  have hl := h.hv.len
  have hrd := h.hv.rd
  have hd := h.hv.dig
  have hv := h.hv.val_
  have hsg := h.sg
  have Hsg := Lib.hid hsg
  have Hv := Lib.hid hv
  have Hd := Lib.hid hd
  have b0 := blk_one w (.bool g) (.slice A xs.length c)
  have k0 := bel_one w (.cells #[.bool g, .slice A xs.length c] 25)
  obtain ⟨o, ho⟩ : ∃ o, o = 18446744073709551615 / p := ⟨_, rfl⟩
  have t0 : decide ((p : Int) = 0) = false := decide_eq_false (by omega)
  have Ho := Lib.hid ho
  have d0 : Hid ((18446744073709551615 : Int) / (p : Int) = ((18446744073709551615 / p : Nat) : Int)) := Lib.hid (by rw [Int.natCast_ediv]; rfl)
  clear h hv hsg hd
  go_enter Tryz.func33, Tryz.ntmps33
  go_wp2_with (fail)
  go_quiet (fail)
  go_wp2_with (fail)
  rw [d0.out, ← Ho.out]
  have Hb0 := Lib.hid b0
  obtain ⟨p0, p1, _, _⟩ := b0.two
  clear b0 d0 t0
  go_loopw [6, 8, 9, 10] (fun rv i _ _ wr => ∃ k : Nat, k ≤ xs.length ∧ i = .int .i64 ((k : Int) - 1) ∧ rv = .int .u64 ((val 4294967296 (xs.drop k) % p : Nat) : Int) ∧ Below (w.heap.size + 1) (w.alloc (.cells #[.bool g, .slice A xs.length c] 25)) wr) (fun _ i _ _ _ => (intOf i + 1).toNat)
  case atStart => exact ⟨xs.length, Nat.le_refl _, by go_num, by simp [val], Dr.below (Dr.step (Dr.refl _) _) _⟩
  case round =>
    obtain ⟨k, hk, rfl, rfl, hbel⟩ := hrel
    have hbw : Below w.heap.size w wr := bst k0 (hbel.mono (by simp)) (by simp)
    have b0 := Hb0.out.below (hbel.mono (by simp)) Hb0.out.lt
    rcases k with _ | k
    · obtain ⟨p2, p3, _, _⟩ := b0.two
      clear p0 p1
      have hv9 : val 4294967296 (xs.drop 0) % p = z.natAbs % p := by rw [List.drop_zero, Hv.out]
      rw [hv9]
      obtain ⟨n, hn⟩ : ∃ n, n = z.natAbs := ⟨_, rfl⟩
      have hmp := Nat.mod_lt z.natAbs hp0
      have ez : z = ivalN g n := by rw [hn]; exact Hsg.out.symm
      rw [← hn] at hmp ⊢
      clear Hsg Hv hn hv9
      obtain ⟨m, hm⟩ : ∃ m, m = n % p := ⟨_, rfl⟩
      have Hm := Lib.hid hm
      rw [← hm] at hmp ⊢
      clear hm
      cases g
      · have ea : z % (p : Int) = (m : Int) := by rw [ez, ival_false, Hm.out, Int.natCast_emod]
        have EA := Lib.hid ea
        clear ez ea
        go_wp2
        go_ret2
        refine ⟨?_, hbw⟩
        rw [EA.out]
        rfl
      · have ea : z % (p : Int) = if 0 < m then ((p - m : Nat) : Int) else 0 := by rw [ez, ival_true, Hm.out, neg_emod9 n p hp0]
        have EA := Lib.hid ea
        clear ez ea
        by_cases hm0 : 0 < m
        · go_wp2
          go_ret2
          refine ⟨?_, hbw⟩
          rw [EA.out, if_pos hm0, Int.natCast_sub (Nat.le_of_lt hmp)]
          rfl
        · go_wp2
          go_ret2
          refine ⟨?_, hbw⟩
          rw [EA.out, if_neg hm0]
          obtain rfl : m = 0 := by omega
          rfl
    · rw [show ((k + 1 : Nat) : Int) - 1 = (k : Int) from by omega]
      have hkx : k < xs.length := by omega
      obtain ⟨b, off, rfl, hb, hx⟩ := hrd.at32 hkx
      have hxw := (hbw.cell (p := ⟨b, off + k, none⟩) (show b < _ by omega)).trans hx
      have hdb := Hd.out.at_ k hkx
      have hdr := List.drop_eq_getElem_cons hkx
      have hvk : val 4294967296 (xs.drop k) = xs[k] + 4294967296 * val 4294967296 (xs.drop (k + 1)) := by rw [hdr]; rfl
      obtain ⟨d, hd⟩ : ∃ d, d = xs[k] := ⟨_, rfl⟩
      obtain ⟨r, hr⟩ : ∃ r, r = val 4294967296 (xs.drop (k + 1)) % p := ⟨_, rfl⟩
      rw [← hd] at hxw hdb hvk
      have hrp : r < p := by rw [hr]; exact Nat.mod_lt _ hp0
      have hgoal : (d + 4294967296 * r) % p = val 4294967296 (xs.drop k) % p := by
        have h9 := mod_digit (val 4294967296 (xs.drop (k + 1))) d p 4294967296
        rw [← hr] at h9
        rw [hvk, ← h9, Nat.add_comm, Nat.mul_comm]
      have OR := Lib.hid (or_high r d (by omega) hdb)
      obtain ⟨p2, p3, _, _⟩ := b0.two
      obtain ⟨x, hxe⟩ : ∃ x, x = d + 4294967296 * r := ⟨_, rfl⟩
      rw [← hxe] at hgoal OR
      have hx9 : x < 18446744073709551616 := by omega
      obtain ⟨q, hq⟩ : ∃ q, q = x * o / 18446744073709551616 := ⟨_, rfl⟩
      obtain ⟨lo, hlo⟩ : ∃ lo, lo = x * o % 18446744073709551616 := ⟨_, rfl⟩
      have MUL : Hid (∀ W, Calls Tryz.prog 60 #[.int .u64 (x : Int), .int .u64 (o : Int)] W fun e w' => e = .returned (.tuple #[.int .u64 (q : Int), .int .u64 (lo : Int)]) ∧ W = w') := fun W => by
        rw [hq, hlo]
        exact mul64_any x o W hx9 (by rw [Ho.out]; exact Nat.lt_of_le_of_lt (Nat.div_le_self _ _) (by decide))
      obtain ⟨hn1, hn2⟩ := mod_near hx9 hp0 Ho.out hq
      have hfin := mod_rest hx9 hp0 Ho.out hq
      have HF := Lib.hid hfin
      have HG := Lib.hid hgoal
      have HQ := Lib.hid hq
      have HR := Lib.hid hr
      rw [← hr]
      clear hgoal hfin hq hlo hvk hdr hd hx hr p0 p1 ho
      go_upto_region 8 with (fail)
      rw [OR.out]
      clear OR hxe hxw
      go_wp2_with (fail)
      refine (MUL.out _).mono ?_
      rintro e w9 ⟨rfl, rfl⟩
      go_wp2_with (fail)
      obtain ⟨y0, hy0⟩ : ∃ y0, y0 = x - q * p := ⟨_, rfl⟩
      rw [show (x : Int) - (q : Int) * (p : Int) = (y0 : Int) from by rw [hy0, Int.natCast_sub hn1, Int.natCast_mul]]
      have hf1 := HF.out.1
      have hf2 := HF.out.2
      rw [← hy0] at hf1 hf2
      have hy2 : y0 < 2 * p := by omega
      have HE : Hid (x % p = val 4294967296 (xs.drop k) % p) := HG
      obtain ⟨m, hm⟩ : ∃ m, m = x % p := ⟨_, rfl⟩
      rw [← hm] at hf1 hf2 HE
      clear hm hy0 hn1 hn2 HF HG HQ MUL HR
      go_loop [6] (fun rv => ∃ y : Nat, rv = .int .u64 (y : Int) ∧ (y = y0 ∨ p ≤ y0 ∧ y = y0 - p)) (fun rv => (intOf rv).toNat)
      case atStart => exact ⟨y0, rfl, Or.inl rfl⟩
      case round =>
        obtain ⟨y, rfl, hy⟩ := hrel
        by_cases hyp : y < p
        · have ey : y = m := by
            rcases hy with rfl | ⟨h1, rfl⟩
            · exact hf1 hyp
            · exact (hf2 h1).1
          clear hy hf1 hf2
          subst ey
          go_wp2_with (fail)
          go_roundw
          case rel =>
            refine ⟨k, by omega, rfl, ?_⟩
            rw [← Int.natCast_emod, ← HE.out]
          case measure => simp [intOf]; omega
        · have ey : y = y0 := by
            rcases hy with rfl | ⟨h1, rfl⟩
            · rfl
            · have := (hf2 h1).2; omega
          subst ey
          clear hy
          go_wp2_with (fail)
          go_round
          case rel => exact ⟨y - p, by rw [Int.natCast_sub (by omega)], Or.inr ⟨by omega, rfl⟩⟩
          case measure => simp [intOf]; omega
end
end
section
open Go.RowKit

/-- A slice at the head of a row of limbs of the call's own, whatever its room. -/
def Rs (w : World) (B : Nat) (A : Option Addr) (vs : List Value) : Prop := vs ≠ [] → ∃ g rest, A = some ⟨g, 0, none⟩ ∧ B ≤ g ∧ Blk w g 36 (vs ++ rest)
section
variable {w w' : World} {B B2 g : Nat} {A : Option Addr} {vs : List Value} {x y : Value}
theorem Res.rs {c : Nat} (h : Res w B 36 A c vs) : Rs w B A vs := fun hn => by
  obtain ⟨g, rest, e, hg, hk, _⟩ := h.2.2 hn
  exact ⟨g, rest, e, hg, hk⟩
theorem Rs.rd (h : Rs w B A vs) : Rd w w.heap.size A vs := fun hn => by
  obtain ⟨g, rest, rfl, _, hb⟩ := h hn
  exact Rd.of_blk hb hb.lt 0 (fun k v hv => by
    rw [Nat.zero_add, List.getElem?_append_left (List.getElem?_eq_some_iff.1 hv).1]; exact hv) hn
theorem Rs.next (h : Rs w B A vs) (hb : Below w.heap.size w w') : Rs w' B A vs := fun hn => by
  obtain ⟨g, rest, e, hg, hk⟩ := h hn
  exact ⟨g, rest, e, hg, hk.below hb hk.lt⟩
theorem Rs.mono (h : Rs w B A vs) (hB : B2 ≤ B) : Rs w B2 A vs := fun hn => by
  obtain ⟨g, rest, e, hg, hk⟩ := h hn
  exact ⟨g, rest, e, by omega, hk⟩
theorem Rs.al (h : Rs w B A vs) (o : Obj) : Rs (w.alloc o) B A vs := h.next ((Below.refl _ _).alloc (Nat.le_refl _) o)
theorem Rs.dw (h : Rs w B A vs) : Rs w.drew B A vs := h
theorem Rs.dn (h : Rs w B A vs) (n : Nat) : Rs (w.drewN n) B A vs := h
theorem Rs.var2 (h : Rs w B A vs) (hB : Blk w g 25 [x, y]) (u v : Value) : Rs ((w.setCell ⟨g, 0, none⟩ u).setCell ⟨g, 1, none⟩ v) B A vs := fun hn => by
  obtain ⟨b, rest, e, hb, hk⟩ := h hn
  have hne : b ≠ g := by
    rintro rfl
    unfold Blk at hk hB
    rw [hk] at hB
    have hB2 := Option.some.inj hB
    injection hB2 with _ e2 _
    exact type_ne e2
  exact ⟨b, rest, e, hb, (hk.far (p := ⟨g, 0, none⟩) hne _).far (p := ⟨g, 1, none⟩) hne _⟩
end
theorem own_rs {w : World} {base : Nat} {v : Value} {n : Nat} {xs : List Value} (h : w.ownsRow base 36 1 v n xs) : ∃ A c, v = .slice A n c ∧ n ≤ c ∧ Rs w base A xs := by
  obtain ⟨hl, h1 | ⟨g, cap, cur, rfl, hg, hh, hnc, hcm, hsz, ht⟩⟩ := h
  · obtain ⟨rfl, rfl⟩ := h1
    have : xs = [] := List.eq_nil_of_length_eq_zero (by simpa using hl)
    subst this
    exact ⟨none, 0, rfl, Nat.le_refl _, fun h => absurd rfl h⟩
  · have hl' : xs.length = n := by simpa using hl
    have hb : Blk w g 36 cur.toList := by simpa [Blk] using hh
    have e1 : cur.toList = xs ++ cur.toList.drop xs.length := by
      conv => lhs; rw [← List.take_append_drop xs.length cur.toList]
      congr 1
      rw [hl']; simpa using ht
    exact ⟨_, cap, rfl, hnc, fun _ => ⟨g, cur.toList.drop xs.length, rfl, hg, by rw [← e1]; exact hb⟩⟩
theorem res_al {w : World} {B : Nat} {t : TypeId} {A : Option Addr} {c : Nat} {vs : List Value} (h : Res w B t A c vs) (o : Obj) : Res (w.alloc o) B t A c vs := h.below ((Below.refl _ _).alloc (Nat.le_refl _) o) (Nat.le_refl _)
theorem res_dw {w : World} {B : Nat} {t : TypeId} {A : Option Addr} {c : Nat} {vs : List Value} (h : Res w B t A c vs) : Res w.drew B t A c vs := h
theorem res_dn {w : World} {B n : Nat} {t : TypeId} {A : Option Addr} {c : Nat} {vs : List Value} (h : Res w B t A c vs) : Res (w.drewN n) B t A c vs := h
set_option maxRecDepth 20000 in
set_option maxHeartbeats 1600000 in
theorem copy_any {w : World} {g : Bool} {A : Option Addr} {c : Nat} {xs : List Nat} (hr : Rd w w.heap.size A (u32s xs)) (hm : xs.length ≤ 35184372088000) :
    Calls Tryz.prog 7 #[.agg #[.bool g, .slice A xs.length c]] w fun e w' => ∃ A' c', e = .returned (.agg #[.bool g, .slice A' xs.length c']) ∧ xs.length ≤ c' ∧ Rs w' w.heap.size A' (u32s xs) ∧ Below w.heap.size w w' := by
  have k0 := bel_two w (.cells #[.bool g, .slice A xs.length c] 25) (.cells #[.bool false, .slice none 0 0] 25)
  obtain ⟨b0, b1⟩ := blk_pair2 w (.bool g) (.slice A xs.length c) (.bool false) (.slice none 0 0)
  obtain ⟨i0, hi, hz0, hz1, hz2⟩ := info_parts Tryz.info32
  go_enter Tryz.func7, Tryz.ntmps7
  go_wp2_with fail
  obtain ⟨w0, hw0⟩ : ∃ w0, w0 = (w.alloc (.cells #[.bool g, .slice A xs.length c] 25)).alloc (.cells #[.bool false, .slice none 0 0] 25) := ⟨_, rfl⟩
  rw [← hw0] at b0 b1 k0 ⊢
  clear hw0
  have RW : Hid (∀ W (_ : Below w0.heap.size w0 W), Rd W w.heap.size A (u32s xs)) := fun W hW => hr.below (bst k0 hW (Nat.le_refl _))
  have B0 := Lib.hid b0
  have B1 := Lib.hid b1
  have K0 := Lib.hid k0
  have s0 : w.heap.size ≤ w0.heap.size := k0.size
  obtain ⟨p0, p1, _, _⟩ := b0.two
  obtain ⟨q0, q1, q2, q3⟩ := b1.two
  have n1 : w.heap.size ≠ w.heap.size + 1 := by omega
  have n2 : w.heap.size + 1 ≠ w.heap.size := by omega
  have q8 : w.heap.size < w0.heap.size := b0.lt
  have q9 : w.heap.size + 1 < w0.heap.size := b1.lt
  clear b0 b1 k0 hr
  go_region_held3 (fun W => W.cell? ⟨w.heap.size, 0, none⟩ = some (.bool g) ∧ W.cell? ⟨w.heap.size, 1, none⟩ = some (.slice A xs.length c)) (go_keep) (first
      | (refine step_app rfl (.tmp 5) (.tmp 7) 23 rfl 36 i0 (.int .u32 0) 4 Tryz.underlying23 hi hz0 hz1 hz2 rfl w0.heap.size 0 A xs.length c (by simp [Act.eval]) (by simp [Act.eval]) [] (u32s xs) w.heap.size (by first | exact Blk.new_ rfl | exact (Blk.new_ rfl).drew | exact (Blk.new_ rfl).drewN _) rfl (RW.out _ (by first | exact bal (Below.refl _ _) (Nat.le_refl _) _ | exact bdw (bal (Below.refl _ _) (Nat.le_refl _) _) | exact bdn (bal (Below.refl _ _) (Nat.le_refl _) _) _)) (u32s_length _) (one_u32s _) (by omega) (by omega) ?_; intro v' w1 hown hgr; obtain ⟨A', c', rfl, hcap, hrs⟩ := own_rs hown; have j1 : Below w0.heap.size w0 w1 := (by first | exact (bdw (bal (Below.refl _ _) (Nat.le_refl _) _)).trans (below_grown hgr (Nat.le_refl _) (by simp)) | exact (bal (Below.refl _ _) (Nat.le_refl _) _).trans (below_grown hgr (Nat.le_refl _) (by simp)) | exact (bdn (bal (Below.refl _ _) (Nat.le_refl _) _) _).trans (below_grown hgr (Nat.le_refl _) (by simp))); obtain ⟨x0, x1, _, _⟩ := (B0.out.below j1 B0.out.lt).two; obtain ⟨y0, y1, y2, y3⟩ := (B1.out.below j1 B1.out.lt).two))
  all_goals
    go_wp2_with fail
    have hB := B1.out.below j1 B1.out.lt
    have hrs2 := (hrs.var2 hB (.bool g) (.slice A' xs.length c')).mono s0
    refine bodyPost_ret (results_cell_row rfl _ _ (w.heap.size + 1) 25 _ (0, 0) _ rfl (blk_pair hB _ _) Tryz.underlying25 rfl (by kernel_rfl)) rfl ⟨A', c', rfl, by omega, ?_, bsc (bsc (bst K0.out j1 (Nat.le_refl _)) (by omega) _) (by omega) _⟩
    exact hrs2
end
end Go.Proofs.YtanlejlmckdeiaaGreat
