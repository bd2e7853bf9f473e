/- The contract of the reference's Len. Plain numbers for the reference's Div. The contract of the reference's Div. Conditions: the divisor is not 0; fewer limbs than any slice can have. The contract of the reference's Left. -/
import Derived.Test.YtogkfpbapjjgfaaDoorPkDv5
import Derived.Test.YtogkfpbapjjgfaaDoorPkDv3
import Derived.Test.YtogkfpbapjjgfaaDoorPkDv6
import Derived.Deep.RegionLaw
import Derived.Deep.RegionHeld3
import Derived.Deep.DeepCutAuto
namespace Go.Proofs.YtogkfpbapjjgfaaDoor
section
open Go.RowKit

theorem bitsOf_half (x : Nat) (h : 0 < x) : bitsOf x = bitsOf (x / 2) + 1 := by
  unfold bitsOf
  rw [if_neg (by omega)]
  by_cases h1 : x / 2 = 0
  · rw [if_pos h1]
    have : x = 1 := by omega
    subst this
    decide
  · rw [if_neg h1]
    have e : Nat.log2 x = Nat.log2 (x / 2) + 1 := by
      have a1 : Nat.log2 (x / 2) + 1 ≤ Nat.log2 x := by
        refine (Nat.le_log2 (by omega)).2 ?_
        have := (Nat.le_log2 h1).1 (Nat.le_refl _)
        rw [Nat.pow_succ]; omega
      have a2 : Nat.log2 x < Nat.log2 (x / 2) + 1 + 1 := by
        refine (Nat.log2_lt (by omega)).2 ?_
        have := (Nat.log2_lt h1).1 (Nat.lt_succ_self _)
        rw [Nat.pow_succ]; omega
      omega
    omega

set_option maxHeartbeats 400000 in
theorem rlen_any (A : Option Addr) (c : Nat) (xs : List Nat) (w : World) (B : Nat) (hr : Rd w B A (u32s xs)) (hB : B ≤ w.heap.size) (hd : Dig 4294967296 xs) (hm : xs.length ≤ 70368744177664) :
    Calls Tryd.prog 15 #[.slice A xs.length c] w fun e w' => e = .returned (.int .i64 (bitsOf (val 4294967296 xs) : Nat)) ∧ Below w.heap.size w w' := by
  have hn := Num.of_trim hd
  have hl := trimL_length_le xs
  go_enter Tryd.func15, Tryd.ntmps15
  go_wp2_with fail
  refine (rnorm_any A c xs _ B hr hB hm).mono ?_
  rintro e w1 ⟨A1, c1, rfl, hres, hb⟩
  obtain ⟨ps, hps⟩ : ∃ ps, ps = trimL xs := ⟨_, rfl⟩
  rw [← hps] at hn hl hres ⊢
  have hrd := hres.rd
  by_cases h0 : ps = []
  · have hl0 : (ps.length : Int) = 0 := by rw [h0]; rfl
    have hv : bitsOf (val 4294967296 xs) = 0 := by rw [← hn.2.2, h0]; rfl
    have Hv := Lib.hid hv
    clear hv h0 hn hres hrd hps
    go_wp2
    go_ret
    exact ⟨by rw [Hv.out]; rfl, hb⟩
  · have hne : ps.length ≠ 0 := fun e => h0 (List.eq_nil_of_length_eq_zero e)
    have hv := bitsOf_val hn h0 (by omega)
    obtain ⟨b, off, rfl, hbB, hcell⟩ := hrd (by intro e; have := u32s_length ps; rw [e] at this; simp at this; omega)
    obtain ⟨k, hk⟩ : ∃ k, ps.length = k + 1 := ⟨ps.length - 1, by omega⟩
    have hcl := hcell k _ (u32s_at (by omega))
    have hx := hn.1.at_ k (by omega)
    have hv2 : bitsOf (val 4294967296 xs) = 32 * k + bitsOf (ps[k]) := by rw [hv]; simp [hk]
    obtain ⟨x, hxe⟩ : ∃ x, x = ps[k] := ⟨_, rfl⟩
    rw [← hxe] at hcl hx hv2
    have hkb : k < 70368744177664 := by omega
    have Hv2 := Lib.hid hv2
    have t0 : (((k : Int) + 1) == 0) = false := by simp; omega
    rw [hk]
    clear hv hv2 hn hcell hxe h0 hne hk hres hrd hps
    go_wp2
    go_loop [3, 4] (fun nv xv => ∃ (i y : Nat), nv = .int .i64 (32 * (k : Int) + (i : Int)) ∧ xv = .int .u32 (y : Int) ∧ y ≤ x ∧ i + bitsOf y = bitsOf x ∧ i ≤ 32) (fun _ xv => (intOf xv).toNat)
    case atStart => exact ⟨0, x, by go_num, rfl, Nat.le_refl _, by omega, by omega⟩
    case round =>
      obtain ⟨i, y, rfl, rfl, hyx, hiy, hi⟩ := hrel
      have hx32 : bitsOf x ≤ 32 := by rw [← bitLen_val _ (by omega)]; exact Lib.bitLen_le _ 32 (by omega) hx
      rcases Nat.eq_zero_or_pos y with h0 | h0
      · subst h0
        have hie : i = bitsOf x := by simpa [bitsOf] using hiy
        have Hie := Lib.hid hie
        clear hiy hie hx32
        go_wp2
        go_ret
        refine ⟨?_, hb⟩
        rw [Hv2.out, ← Hie.out]
        simp
      · have hh := bitsOf_half y h0
        have hiy2 : i + 1 + bitsOf (y / 2) = bitsOf x := by omega
        have hi2 : i + 1 ≤ 32 := by omega
        have Hiy2 := Lib.hid hiy2
        clear hiy hh hiy2
        go_wp2
        go_round
        case rel => exact ⟨i + 1, y / 2, by go_num, by go_num, by omega, Hiy2.out, hi2⟩
        case measure => simp [intOf]; omega
end
section
open Go.RowKit

/-- What Div's row and rest are when the limbs from k on are divided. -/
def Longed (xs : List Nat) (n k : Nat) (qs : List Nat) (r : Nat) : Prop :=
  qs.length = xs.length ∧ Dig 4294967296 qs ∧ r < n ∧ val 4294967296 (xs.drop k) = val 4294967296 (qs.drop k) * n + r ∧ ∀ j (h : j < qs.length), j < k → qs[j] = 0
theorem Longed.start (xs : List Nat) (n : Nat) (hn : 0 < n) : Longed xs n xs.length (List.replicate xs.length 0) 0 :=
  ⟨by simp, Dig.zeros_ (by omega) _, hn, by simp [val], fun j h _ => by simp⟩
theorem Longed.small {xs qs : List Nat} {n k r : Nat} (h : Longed xs n (k + 1) qs r) (hk : k < xs.length) (hlt : xs[k] + 4294967296 * r < n) : Longed xs n k qs (xs[k] + 4294967296 * r) := by
  obtain ⟨h1, h2, h3, h4, h5⟩ := h
  refine ⟨h1, h2, hlt, ?_, fun j hj hjk => h5 j hj (by omega)⟩
  have e1 : xs.drop k = xs[k] :: xs.drop (k + 1) := List.drop_eq_getElem_cons hk
  have e2 : qs.drop k = qs[k]'(by omega) :: qs.drop (k + 1) := List.drop_eq_getElem_cons (by omega)
  rw [e1, e2, h5 k (by omega) (by omega)]
  simp only [val]
  rw [h4, Nat.mul_add, Nat.zero_add, Nat.mul_assoc]; omega
theorem Longed.step {xs qs : List Nat} {n k r : Nat} (h : Longed xs n (k + 1) qs r) (hk : k < xs.length) (hx : xs[k] < 4294967296) :
    (xs[k] + 4294967296 * r) / n < 4294967296 ∧ Longed xs n k (qs.set k ((xs[k] + 4294967296 * r) / n)) ((xs[k] + 4294967296 * r) % n) := by
  obtain ⟨h1, h2, h3, h4, h5⟩ := h
  have hq : (xs[k] + 4294967296 * r) / n < 4294967296 := by
    rw [Nat.div_lt_iff_lt_mul (by omega)]
    have : 4294967296 * (r + 1) ≤ 4294967296 * n := Nat.mul_le_mul_left _ h3
    omega
  refine ⟨hq, by simpa using h1, h2.set_ _ _ hq, Nat.mod_lt _ (by omega), ?_, fun j hj hjk => ?_⟩
  · have e1 : xs.drop k = xs[k] :: xs.drop (k + 1) := List.drop_eq_getElem_cons hk
    have e2 : (qs.set k ((xs[k] + 4294967296 * r) / n)).drop k = ((xs[k] + 4294967296 * r) / n) :: qs.drop (k + 1) := by
      rw [List.drop_eq_getElem_cons (by simpa using (by omega : k < qs.length))]
      simp [List.drop_set]
    rw [e1, e2]
    simp only [val]
    rw [h4]
    have hd := Nat.div_add_mod (xs[k] + 4294967296 * r) n
    generalize (xs[k] + 4294967296 * r) / n = q at *
    generalize (xs[k] + 4294967296 * r) % n = m at *
    rw [Nat.add_mul, Nat.mul_add, Nat.mul_assoc, Nat.mul_comm q n]
    generalize val 4294967296 (qs.drop (k + 1)) * n = z at *
    omega
  · rw [List.getElem_set, if_neg (by omega)]
    exact h5 j (by simpa using hj) (by omega)
theorem Longed.last {xs qs : List Nat} {n r : Nat} (h : Longed xs n 0 qs r) : val 4294967296 qs = val 4294967296 xs / n ∧ r = val 4294967296 xs % n := by
  obtain ⟨h1, h2, h3, h4, h5⟩ := h
  simp only [List.drop_zero] at h4
  rw [h4, Nat.mul_comm]
  constructor
  · rw [Nat.mul_add_div (by omega), Nat.div_eq_of_lt h3, Nat.add_zero]
  · rw [Nat.mul_add_mod, Nat.mod_eq_of_lt h3]

/-- The bits of a digit, from the top. -/
theorem bit_yes (D j : Nat) (h : D / 2 ^ (j + 1) * 2 ^ (j + 1) + 2 ^ j ≤ D) : D / 2 ^ j * 2 ^ j = D / 2 ^ (j + 1) * 2 ^ (j + 1) + 2 ^ j := by
  have hp : 0 < 2 ^ j := Nat.two_pow_pos j
  rw [Nat.pow_succ, ← Nat.div_div_eq_div_mul] at h ⊢
  have h1 := Nat.div_add_mod D (2 ^ j)
  have h2 : D % 2 ^ j < 2 ^ j := Nat.mod_lt _ hp
  generalize D / 2 ^ j = q at *
  have h3 : q / 2 * (2 ^ j * 2) = (q / 2 * 2) * 2 ^ j := by rw [Nat.mul_comm (2 ^ j) 2, ← Nat.mul_assoc]
  rw [h3] at h ⊢
  have h4 : q % 2 = 1 := by
    rcases Nat.mod_two_eq_zero_or_one q with h0 | h0
    · exfalso
      have : q / 2 * 2 = q := by omega
      rw [this, Nat.mul_comm] at h
      omega
    · exact h0
  have h5 : q = q / 2 * 2 + 1 := by omega
  conv => lhs; rw [h5]
  rw [Nat.add_mul, Nat.one_mul]
theorem bit_no (D j : Nat) (h : ¬ (D / 2 ^ (j + 1) * 2 ^ (j + 1) + 2 ^ j ≤ D)) : D / 2 ^ j * 2 ^ j = D / 2 ^ (j + 1) * 2 ^ (j + 1) := by
  have hp : 0 < 2 ^ j := Nat.two_pow_pos j
  rw [Nat.pow_succ, ← Nat.div_div_eq_div_mul] at h ⊢
  have h1 := Nat.div_add_mod D (2 ^ j)
  generalize D / 2 ^ j = q at *
  have h3 : q / 2 * (2 ^ j * 2) = (q / 2 * 2) * 2 ^ j := by rw [Nat.mul_comm (2 ^ j) 2, ← Nat.mul_assoc]
  rw [h3] at h ⊢
  have h4 : q % 2 = 0 := by
    rcases Nat.mod_two_eq_zero_or_one q with h0 | h0
    · exact h0
    · exfalso
      have h5 : q = q / 2 * 2 + 1 := by omega
      rw [h5, Nat.mul_add, Nat.mul_one, Nat.mul_comm] at h1
      omega
  have h5 : q / 2 * 2 = q := by omega
  rw [h5]

theorem Res.setCell {w : World} {B : Nat} {t : TypeId} {A : Option Addr} {c : Nat} {vs : List Value} (h : Res w B t A c vs) {p : Addr} (hp : p.block < B) (u : Value) : Res (w.setCell p u) B t A c vs :=
  ⟨h.1, h.2.1, fun hn => by
    obtain ⟨g, rest, e, hg, hk, hc⟩ := h.2.2 hn
    exact ⟨g, rest, e, hg, hk.far (by omega) u, hc⟩⟩
theorem Res.len32 {w : World} {B : Nat} {t : TypeId} {A : Option Addr} {c : Nat} {xs : List Nat} (h : Res w B t A c (u32s xs)) : xs.length ≤ c := by have := h.1; rwa [u32s_length] at this
end
section
open Go.RowKit

theorem Num.len_le {b : Nat} {zs : List Nat} {n k : Nat} (hb : 1 < b) (h : Num b zs n) (hn : n < b ^ k) : zs.length ≤ k := by
  by_cases h0 : zs = []
  · subst h0; simp
  · have h1 := h.ge h0
    have h2 : b ^ (zs.length - 1) < b ^ k := by omega
    have := (Nat.pow_lt_pow_iff_right hb).1 h2
    omega

theorem mul_lt_pow {b n t l : Nat} (hn : n < b ^ l) (ht : t < b) : n * t < b ^ (l + 1) := by
  have h1 : n * t ≤ n * b := Nat.mul_le_mul_left _ (Nat.le_of_lt ht)
  have h2 : n * b < b ^ l * b := (Nat.mul_lt_mul_right (by omega)).2 hn
  rw [Nat.pow_succ]
  omega
theorem add_lt_pow {b n x r l : Nat} (hn : n < b ^ l) (hx : x < b) (hr : r < n) : x + b * r < b ^ (l + 1) := by
  have h1 : b * (r + 1) ≤ b * b ^ l := Nat.mul_le_mul_left _ (by omega)
  rw [Nat.mul_add, Nat.mul_one] at h1
  rw [Nat.pow_succ, Nat.mul_comm (b ^ l)]
  omega
theorem digit_or (D j d0 : Nat) (hj : j < 32) (hD : D < 4294967296) (h : d0 = D / 2 ^ (j + 1) * 2 ^ (j + 1)) : bits BinOp.or IntKind.u32 (d0 : Int) (2 ^ j % 4294967296) = ((d0 + 2 ^ j : Nat) : Int) ∧ d0 + 2 ^ j < 4294967296 := by
  have hp : 0 < 2 ^ j := Nat.two_pow_pos j
  have hj2 : 2 ^ j < 2 ^ 32 := Nat.pow_lt_pow_right (by omega) hj
  have hd : d0 ≤ D := by rw [h]; exact Nat.div_mul_le_self _ _
  have e1 : ((2 : Int) ^ j % 4294967296) = ((2 ^ j : Nat) : Int) := by
    rw [show ((2 : Int) ^ j) = ((2 ^ j : Nat) : Int) from by simp]; omega
  have e2 : d0 ||| 2 ^ j = d0 + 2 ^ j := by
    rw [h, or_shift (2 ^ j) (D / 2 ^ (j + 1)) (j + 1) (Nat.pow_lt_pow_right (by omega) (by omega)), Nat.mul_comm, Nat.add_comm]
  refine ⟨?_, ?_⟩
  · rw [e1, u32_or_nat d0 (2 ^ j) (by omega) (by omega), e2]
  · have e3 : 2 ^ (31 - j) * 2 ^ (j + 1) = 4294967296 := by rw [← Nat.pow_add, show 31 - j + (j + 1) = 32 from by omega]
    have h4 : D / 2 ^ (j + 1) < 2 ^ (31 - j) := by rw [Nat.div_lt_iff_lt_mul (Nat.two_pow_pos _), e3]; exact hD
    have h5 : (D / 2 ^ (j + 1) + 1) * 2 ^ (j + 1) ≤ 2 ^ (31 - j) * 2 ^ (j + 1) := Nat.mul_le_mul_right _ h4
    rw [e3, Nat.succ_mul, ← h, Nat.pow_succ] at h5
    omega

set_option maxHeartbeats 1600000 in
theorem rdiv_any (A A2 : Option Addr) (c c2 : Nat) (xs ys : List Nat) (w : World) (B : Nat) (hr : Rd w B A (u32s xs)) (hr2 : Rd w B A2 (u32s ys)) (hB : B ≤ w.heap.size) (hd : Dig 4294967296 xs) (hd2 : Dig 4294967296 ys) (hm : xs.length ≤ 70368744170000) (hm2 : ys.length ≤ 35184372088700) (hpos : 0 < val 4294967296 ys) :
    Calls Tryd.prog 27 #[.slice A xs.length c, .slice A2 ys.length c2] w fun e w' => ∃ qs rs A1 c1 A3 c3, e = .returned (.tuple #[.slice A1 qs.length c1, .slice A3 rs.length c3]) ∧ Num 4294967296 qs (val 4294967296 xs / val 4294967296 ys) ∧ Num 4294967296 rs (val 4294967296 xs % val 4294967296 ys) ∧ Res w' w.heap.size 31 A1 c1 (u32s qs) ∧ Res w' w.heap.size 31 A3 c3 (u32s rs) ∧ Below w.heap.size w w' := by
  have hl1 := trimL_length_le xs
  have hl2 := trimL_length_le ys
  obtain ⟨n, hnv⟩ : ∃ n, n = val 4294967296 ys := ⟨_, rfl⟩
  have hn2 : Num 4294967296 (trimL ys) n := by rw [hnv]; exact Num.of_trim hd2
  have Hvx := Lib.hid (val_trim 4294967296 xs)
  rw [← hnv] at hpos ⊢
  have hdp := hd.trim_
  have hdq := hn2.1
  go_enter Tryd.func27, Tryd.ntmps27
  go_wp2_with fail
  refine (rnorm_any A c xs _ B hr hB (by omega)).mono ?_
  rintro e w1 ⟨A1, c1, rfl, hres1, hb1⟩
  go_wp2_with fail
  refine (rnorm_any A2 c2 ys _ B (hr2.below (hb1.mono hB)) (Nat.le_trans hB hb1.size) (by omega)).mono ?_
  rintro e w2 ⟨A3, c3, rfl, hres2, hb2⟩
  have hres1' := hres1.below hb2 (Nat.le_refl _)
  have hra := hres1'.rd
  have hrb := hres2.rd
  have hb12 := hb1.trans (hb2.mono hb1.size)
  obtain ⟨ps, hps⟩ : ∃ ps, ps = trimL xs := ⟨_, rfl⟩
  obtain ⟨qs0, hqs0⟩ : ∃ qs0, qs0 = trimL ys := ⟨_, rfl⟩
  rw [← hps] at hl1 hdp hra
  rw [← hqs0] at hl2 hdq hrb hn2
  rw [← hps, ← hqs0]
  have Hps := Lib.hid hps
  have hvn : Hid (val 4294967296 qs0 = n) := hn2.2.2
  have hnlt := hn2.lt
  have hmk := fun W => mk32 ps.length (by omega) W
  have hs1 : w.heap.size ≤ w2.heap.size := hb12.size
  have hpl : ps.length ≤ 70368744170000 := by omega
  have hql : qs0.length ≤ 35184372088700 := by omega
  clear hps hqs0 hres1 hres1' hres2 hb1 hb2 hnv hr hr2
  go_wp2_with fail
  go_loopw [7, 8, 9, 10, 11] (fun rv i _ _ _ wr => ∃ (k R : Nat) (qs rs : List Nat) (A4 : Option Addr) (c4 : Nat), k ≤ ps.length ∧ i = .int .i64 ((k : Int) - 1) ∧ rv = .slice A4 rs.length c4 ∧ Num 4294967296 rs R ∧ Res wr (w2.heap.size + 1) 31 A4 c4 (u32s rs) ∧ Blk wr w2.heap.size 31 (u32s qs) ∧ Longed ps n k qs R ∧ Below w2.heap.size w2 wr) (fun _ i _ _ _ _ => (intOf i + 1).toNat)
  case atStart => exact ⟨ps.length, 0, List.replicate ps.length 0, [], none, 0, Nat.le_refl _, by go_num, rfl, Num.zero_ _, Res.none_, Blk.new_ (by simp [u32s]), Longed.start ps n hpos, (Below.refl _ _).alloc (Nat.le_refl _) _⟩
  case round =>
    obtain ⟨k, R, qs, rs, A4, c4, hk, rfl, rfl, hnr, hrr, hblk, hlg, hbel⟩ := hrel
    rcases k with _ | k
    · obtain ⟨hv1, hv2⟩ := hlg.last
      rw [Hps.out, Hvx.out] at hv1 hv2
      have hqlen : Hid (qs.length = ps.length) := hlg.1
      have hqm : qs.length ≤ 70368744177664 := by rw [hlg.1]; omega
      have hrd := (Res.of_blk0 hblk (Nat.le_refl _) (by rw [u32s_length]; omega)).rd
      have Hv1 := Lib.hid hv1
      have Hv2 := Lib.hid hv2
      clear hv1 hv2
      go_wp2_with fail
      rw [← hqlen.out]
      refine (rnorm_any _ _ qs wr _ hrd (Nat.le_refl _) hqm).mono ?_
      rintro e w5 ⟨A7, c7, rfl, hres, hb5⟩
      go_wp2
      go_ret2
      have hs2 := hbel.size
      refine ⟨trimL qs, rs, A7, c7, A4, c4, rfl, ?_, ?_, hres.mono (by omega), (hrr.below hb5 (Nat.le_refl _)).mono (by omega), hb12.trans ((hbel.trans (hb5.mono hs2)).mono hs1)⟩
      · rw [← Hv1.out]; exact Num.of_trim hlg.2.1
      · rw [← Hv2.out]; exact hnr
    · rw [show ((k + 1 : Nat) : Int) - 1 = (k : Int) from by omega]
      have hkp : k < ps.length := by omega
      have hrl : rs.length ≤ qs0.length := hnr.len_le (by omega) (Nat.lt_trans hlg.2.2.1 hnlt)
      obtain ⟨b, off, rfl, hbb, hcell⟩ := hra (by intro e; have := u32s_length ps; rw [e] at this; simp at this; omega)
      have hx := (hbel.cell (p := ⟨b, off + k, none⟩) hbb).trans (hcell k _ (u32s_at hkp))
      have hxd := hdp.at_ k hkp
      clear hcell
      go_wp2_with fail
      refine (rshift_any A4 c4 rs ps[k] _ _ hrr.rd (Nat.le_refl _) hnr.1 hxd (by omega)).mono ?_
      rintro e w3 ⟨ts, A5, c5, rfl, hnt, hrt, hb3⟩
      have hs3 := hb3.size
      have hs2 := hbel.size
      have hblk3 := hblk.below hb3 hblk.lt
      have hbel3 := hbel.trans (hb3.mono hs2)
      go_wp2_with fail
      have htl : ts.length ≤ qs0.length + 1 := by
        refine hnt.len_le (by omega) ?_
        rw [hnr.2.2]
        exact add_lt_pow hnlt hxd hlg.2.2.1
      refine (rcmp_any A5 A3 c5 c3 ts qs0 _ w3.heap.size hrt.rd (hrb.below hbel3 |>.mono (Nat.le_trans hs2 hs3)) hnt.1 hdq (by omega) (by omega)).mono ?_
      rintro e w4 ⟨rfl, rfl⟩
      have hvt : val 4294967296 ts = ps[k] + 4294967296 * R := by rw [hnt.2.2, hnr.2.2]
      rw [hvt, hvn.out]
      obtain ⟨R1, hR1⟩ : ∃ R1, R1 = ps[k] + 4294967296 * R := ⟨_, rfl⟩
      rw [← hR1] at hvt ⊢
      have hnt1 : Num 4294967296 ts R1 := by rw [← hvt]; exact ⟨hnt.1, hnt.2.1, rfl⟩
      rcases Nat.lt_or_ge R1 n with hlt | hge
      · rw [show cmpN R1 n = -1 from by simp [cmpN, hlt]]
        have hsm := hlg.small hkp (by rw [← hR1]; exact hlt)
        rw [← hR1] at hsm
        clear hR1 hvt hx
        go_wp2
        go_roundw
        case rel => exact ⟨k, R1, qs, ts, A5, c5, by omega, by go_num, rfl, hnt1, hrt.mono (by have := hblk.lt; omega), hblk3, hsm, hbel3⟩
        case measure => simp [intOf]
      · have hc0 : 0 ≤ cmpN R1 n := by unfold cmpN; split <;> (try split) <;> omega
        obtain ⟨cm, hcm⟩ : ∃ cm : Int, cm = cmpN R1 n := ⟨_, rfl⟩
        rw [← hcm] at hc0 ⊢
        obtain ⟨hD, hst⟩ := hlg.step hkp hxd
        rw [← hR1] at hD hst
        obtain ⟨D, hDe⟩ : ∃ D, D = R1 / n := ⟨_, rfl⟩
        rw [← hDe] at hD hst
        have HDe := Lib.hid hDe
        have Hst := Lib.hid hst
        clear hcm hR1 hvt hx hDe hst
        go_wp2_with fail
        go_loopw [9, 10, 11] (fun dv kv _ wq => ∃ j : Nat, j ≤ 32 ∧ kv = .int .i64 ((j : Int) - 1) ∧ dv = .int .u32 ((D / 2 ^ j * 2 ^ j : Nat) : Int) ∧ Below w3.heap.size w3 wq) (fun _ kv _ _ => (intOf kv + 1).toNat)
        case atStart => exact ⟨32, by omega, by go_num, by rw [Nat.div_eq_of_lt hD]; rfl, Below.refl _ _⟩
        case round =>
          obtain ⟨j, hj, rfl, rfl, hbq⟩ := hrel
          rcases j with _ | j
          · simp only [Nat.pow_zero, Nat.div_one, Nat.mul_one]
            have hkq : k < qs.length := by rw [hlg.1]; exact hkp
            have hbq2 := hblk3.below hbq hblk3.lt
            have hcq := (hbq2.cell k).trans (u32s_at hkq)
            have hfq := hbq2.frozen k
            have hbs : Blk (wr.setCell ⟨w2.heap.size, k, none⟩ (.int .u32 (D : Int))) w2.heap.size 31 (u32s (qs.set k D)) := by
              have := hbq2.set_ k (Value.int IntKind.u32 (D : Int))
              rwa [u32s_set] at this
            have hs4 := hbq.size
            have hb2s : Below w2.heap.size w2 (wr.setCell ⟨w2.heap.size, k, none⟩ (.int .u32 (D : Int))) := (hbel3.trans (hbq.mono (Nat.le_trans hs2 hs3))).setCell (p := ⟨w2.heap.size, k, none⟩) (Nat.le_refl _) _
            have hrs : Res (wr.setCell ⟨w2.heap.size, k, none⟩ (.int .u32 (D : Int))) (w2.heap.size + 1) 31 A5 c5 (u32s ts) := ((hrt.mono (by have := hblk.lt; omega)).below hbq (Nat.le_refl _)).setCell (by show w2.heap.size < _; omega) _
            obtain ⟨ws, hws⟩ : ∃ ws, ws = wr.setCell ⟨w2.heap.size, k, none⟩ (.int .u32 (D : Int)) := ⟨_, rfl⟩
            go_wp2_with fail
            rw [← hws] at hbs hb2s hrs ⊢
            have hzs := hb2s.size
            refine (rsmall_any A3 c3 qs0 D _ _ (hrb.below hb2s) hzs hdq hD (by omega)).mono ?_
            rintro e w5 ⟨ms, A6, c6, rfl, hnm, hrm, hb5⟩
            have hmt : ms.length ≤ qs0.length + 1 := by
              refine hnm.len_le (by omega) ?_
              rw [hvn.out]
              exact mul_lt_pow hnlt hD
            have hmv : val 4294967296 ms ≤ val 4294967296 ts := by
              rw [hnm.2.2, hnt1.2.2, hvn.out, HDe.out]; exact Nat.mul_div_le _ _
            have hb25 := hb2s.trans (hb5.mono hzs)
            have hrs5 := hrs.below hb5 (Nat.le_refl _)
            clear hws
            go_wp2_with fail
            refine (rsub_any A5 A6 c5 c6 ts ms _ w5.heap.size hrs5.rd hrm.rd (Nat.le_refl _) hnt1.1 hnm.1 (by omega) (by omega) hmv).mono ?_
            rintro e w6 ⟨ns, A7, c7, rfl, hnn, hrn, hb6⟩
            have hnv : Num 4294967296 ns (R1 % n) := by
              have e1 : val 4294967296 ts - val 4294967296 ms = R1 % n := by
                rw [hnm.2.2, hnt1.2.2, hvn.out, HDe.out]
                have := Nat.div_add_mod R1 n
                omega
              rw [← e1]; exact hnn
            have hsz5 := hb5.size
            have hblt := hbs.lt
            go_wp2
            go_roundw
            case rel =>
              refine ⟨k, R1 % n, qs.set k D, ns, A7, c7, by omega, by go_num, rfl, hnv, hrn.mono (by omega), (hbs.below hb5 hblt).below hb6 (by omega), Hst.out, hb25.trans (hb6.mono (by omega))⟩
            case measure => simp [intOf]
          · rw [show ((j + 1 : Nat) : Int) - 1 = (j : Int) from by omega]
            obtain ⟨d0, hd0⟩ : ∃ d0, d0 = D / 2 ^ (j + 1) * 2 ^ (j + 1) := ⟨_, rfl⟩
            have hd0b : d0 < 4294967296 := by rw [hd0]; exact Nat.lt_of_le_of_lt (Nat.div_mul_le_self _ _) hD
            rw [← hd0]
            obtain ⟨eor, htb⟩ := digit_or D j d0 (by omega) hD hd0
            obtain ⟨tt, htt⟩ : ∃ tt, tt = d0 + 2 ^ j := ⟨_, rfl⟩
            rw [← htt] at eor htb
            have Hd0 := Lib.hid hd0
            have Htt := Lib.hid htt
            clear hd0 htt
            go_wp2_with fail
            refine (rsmall_any A3 c3 qs0 tt _ _ ((hrb.below hbel3).below (hbq.mono (Nat.le_trans hs2 hs3))) (Nat.le_trans (Nat.le_trans hs2 hs3) hbq.size) hdq htb (by omega)).mono ?_
            rintro e w5 ⟨ms, A6, c6, rfl, hnm, hrm, hb5⟩
            have hmt : ms.length ≤ qs0.length + 1 := by
              refine hnm.len_le (by omega) ?_
              rw [hvn.out]
              exact mul_lt_pow hnlt htb
            have hb35 := hbq.trans (hb5.mono hbq.size)
            have hrt5 := hrt.rd.below hb35
            have hsz5 := hb35.size
            go_wp2_with fail
            refine (rcmp_any A6 A5 c6 c5 ms ts _ w5.heap.size hrm.rd (hrt5.mono hsz5) hnm.1 hnt1.1 (by omega) (by omega)).mono ?_
            rintro e w6 ⟨rfl, rfl⟩
            rw [hnm.2.2, hnt1.2.2, hvn.out]
            by_cases hle : tt ≤ D
            · have h1 : tt * n ≤ R1 := by rw [← Nat.le_div_iff_mul_le hpos, ← HDe.out]; exact hle
              have hc1 : cmpN (n * tt) R1 ≤ 0 := by
                rw [Nat.mul_comm]; unfold cmpN; split <;> (try split) <;> omega
              obtain ⟨cm2, hcm2⟩ : ∃ cm2 : Int, cm2 = cmpN (n * tt) R1 := ⟨_, rfl⟩
              rw [← hcm2] at hc1 ⊢
              have hby := bit_yes D j (by rw [← Hd0.out, ← Htt.out]; exact hle)
              rw [← Hd0.out, ← Htt.out] at hby
              have Hby := Lib.hid hby
              clear hcm2 hby h1 hle
              go_wp2
              go_roundw
              case rel => exact ⟨j, by omega, by go_num, by rw [Hby.out], hb35⟩
              case measure => simp [intOf]
            · have h1 : R1 < tt * n := by
                rcases Nat.lt_or_ge R1 (tt * n) with h | h
                · exact h
                · exact absurd (by rw [HDe.out, Nat.le_div_iff_mul_le hpos]; exact h) hle
              have hc1 : cmpN (n * tt) R1 = 1 := by
                rw [Nat.mul_comm]; unfold cmpN; rw [if_neg (by omega), if_pos h1]
              rw [hc1]
              have hbn := bit_no D j (by rw [← Hd0.out, ← Htt.out]; exact hle)
              rw [← Hd0.out] at hbn
              have Hbn := Lib.hid hbn
              clear hc1 hbn h1 hle
              go_wp2
              go_roundw
              case rel => exact ⟨j, by omega, by go_num, by rw [Hbn.out], hb35⟩
              case measure => simp [intOf]
end
section
open Go.RowKit

/-- An append onto a row that is known whole, as one step of a region that draws. -/
theorem step_app {P : Program} {ops : Array Oper} {o : Oper} {a : Act} {w : World} {K : Act → World → Prop} {Q : Exit → Act → World → Prop} {E : Prop} (hgd : o.guard = none) (d s : Operand) (t : TypeId)
    (ho : o.op = .call { callee := .builtin .append, args := #[d, s], argTypes := #[t, t] }) (e : TypeId) (i : TypeInfo) (z : Value) (bytes : Nat) (ht : P.underlying t = some (.slice e)) (hi : P.info? e = some i) (hz : i.zero = some z)
    (hsize : i.size = 1) (hby : i.bytes = bytes) (hzs : z.cells.size = 1) (g n : Nat) (A : Option Addr) (m c : Nat) (hd : a.eval d = .slice (some ⟨g, 0, none⟩) n n) (hs : a.eval s = .slice A m c)
    (xs news : List Value) (B : Nat) (hb : Blk w g e xs) (hn : xs.length = n) (hr : Rd w B A news) (hm : news.length = m) (h1 : ∀ u ∈ news, u.oneCell' = true) (h63 : n + m ≤ 281474976710656) (hbytes : (n + m) * bytes ≤ 140737488355328)
    (h : ∀ v' w', w'.ownsRow g e 1 v' (n + m) (xs ++ news) → w.grownBy w' (some g) → K (a.put o.dst v') w') :
    if Region.wanted o (yielded ops a.tmps) = true then Oper.wp P o a w K Q else E := by
  have hw : Region.wanted o (yielded ops a.tmps) = true := by simp [Region.wanted, hgd]
  rw [if_pos hw]
  have hown : w.ownsRow g e 1 (.slice (some ⟨g, 0, none⟩) n n) n xs :=
    ⟨by omega, .inr ⟨g, n, xs.toArray, rfl, Nat.le_refl _, hb, Nat.le_refl _, by unfold maxLen; omega, by simp [hn], by simp [← hn]⟩⟩
  obtain ⟨v', w', hrun, h2, h3⟩ := run_app (P := P) w g t o.type e i z bytes ht hi hz hsize hby hzs g n n xs hown A m c B news hr hm h1 (by unfold maxLen; omega) hbytes (by have := hb.lt; omega)
  unfold Oper.wp
  simp [execOp, ho, resolve, invoke, builtin, hd, hs, hrun, Result.andThen]
  exact h v' w' h2 h3

set_option maxRecDepth 20000 in
set_option maxHeartbeats 1600000 in
theorem rleft_any (A : Option Addr) (c : Nat) (xs : List Nat) (n d s : Nat) (w : World) (B : Nat) (hr : Rd w B A (u32s xs)) (hB : B ≤ w.heap.size) (hd : Dig 4294967296 xs) (hn : n = 32 * d + s) (hs : s < 32) (hm : d + (trimL xs).length ≤ 35184372088000) (hm0 : xs.length ≤ 70368744170000) :
    Calls Tryd.prog 51 #[.slice A xs.length c, .int .i64 (n : Int)] w fun e w' => ∃ zs A' c', e = .returned (.slice A' zs.length c') ∧ Num 4294967296 zs (val 4294967296 xs * 2 ^ n) ∧ Res w' w.heap.size 31 A' c' (u32s zs) ∧ Below w.heap.size w w' := by
  have hl := trimL_length_le xs
  have hmk := fun W => mk32 d (by omega) W
  have q1 : (n : Int) / 32 = (d : Int) := by omega
  have q2 : (n : Int) % 32 = (s : Int) := by omega
  have nb : n < 9223372036854775807 := by omega
  have Hn := Lib.hid hn
  have hwr : IntKind.i64.wrap (d : Int) = (d : Int) := by rw [IntKind.wrap_i64]; omega
  clear hn
  go_enter Tryd.func51, Tryd.ntmps51
  go_wp2_with fail
  obtain ⟨i0, hi, hz0, hz1, hz2⟩ := info_parts Tryd.info32
  have hnc : ∀ W : World, Below w.heap.size w W → Calls Tryd.prog 9 #[.slice A xs.length c] W fun e w' => ∃ A' c', e = .returned (.slice A' (trimL xs).length c') ∧ Res w' W.heap.size 31 A' c' (u32s (trimL xs)) ∧ Below W.heap.size W w' :=
    fun W hW => rnorm_any A c xs W B (hr.below (hW.mono hB)) (Nat.le_trans hB hW.size) (by omega)
  have Hnc := Lib.hid hnc
  have hl9 : (u32s (List.replicate d 0)).length = d := by simp [u32s]
  have Hl9 := Lib.hid hl9
  have hsum : d + (trimL xs).length ≤ 35184372088000 := by omega
  have hbk : ∀ W : World, Blk (W.alloc (.cells (Array.replicate d (Value.int .u32 0)) 31)) W.heap.size 31 (u32s (List.replicate d 0)) := fun W => Blk.new_ (by simp [u32s])
  have Hbk := Lib.hid hbk
  clear hnc hl9 hbk
  go_cut [5] (fun v wc => ∃ A1 c1, v = .slice A1 (d + (trimL xs).length) c1 ∧ Rd wc wc.heap.size A1 (u32s (List.replicate d 0 ++ trimL xs)) ∧ Below w.heap.size w wc)
  case first =>
    go_region_held3 (fun _ => True) (exact trivial) (first
      | (go_at_call 9; refine (Hnc.out _ (by first | exact (Below.refl _ _).drew | exact ((Below.refl _ _).alloc (Nat.le_refl _) _).drew)).mono ?_; rintro e w1 ⟨A1, c1, rfl, hres, hb⟩)
      | (refine step_app rfl (.tmp 8) (.tmp 10) 23 rfl 31 i0 (.int .u32 0) 4 Tryd.underlying23 hi hz0 hz1 hz2 rfl _ d _ _ _ rfl rfl (u32s (List.replicate d 0)) (u32s (trimL xs)) _ (by first | exact Hbk.out _ | exact (Hbk.out w).drew.below hb (by show w.heap.size < (w.alloc _).heap.size; rw [World.size_alloc]; omega)) Hl9.out (by first | exact hres.rd | exact hres.rd.below ((Below.refl _ _).alloc (Nat.le_refl _) _)) (u32s_length _) (one_u32s _) (by omega) (by omega) ?_; intro v' w2 hown hgr))
    all_goals
      go_wp2
      go_meet
      obtain ⟨A9, c9, rfl, hlc9, hrd9, _⟩ := own_res hown (by omega)
      refine ⟨A9, c9, rfl, ?_, ?_⟩
      · have e9 : u32s (List.replicate d 0 ++ trimL xs) = u32s (List.replicate d 0) ++ u32s (trimL xs) := by simp [u32s]
        rw [e9]; exact hrd9
      · have hsz1 := hb.size
        first
          | (have e1 : Below w.heap.size w w1 := ((Below.refl _ _).alloc (Nat.le_refl _) _).drew.trans (hb.mono (by show w.heap.size ≤ (w.alloc _).heap.size; rw [World.size_alloc]; omega))
             exact e1.trans (below_grown hgr (Nat.le_refl _) e1.size))
          | (have e1 : Below w.heap.size w w1 := (Below.refl _ _).drew.trans hb
             exact (e1.alloc e1.size _).trans (below_grown hgr e1.size (by rw [World.size_alloc]; have := e1.size; omega)))
  case rest =>
    obtain ⟨A1, c1, rfl, hrd, hbel⟩ := hcut
    have hdl : Dig 4294967296 (List.replicate d 0 ++ trimL xs) := (Dig.zeros_ (by omega) _).append_ hd.trim_
    have hln : Hid ((List.replicate d 0 ++ trimL xs).length = d + (trimL xs).length) := by show _ = _; simp
    have hvl : val 4294967296 (List.replicate d 0 ++ trimL xs) * 2 ^ s = val 4294967296 xs * 2 ^ n := by
      rw [val_append, val_zeros, val_trim, Hn.out, Nat.pow_add, Nat.pow_mul, show (2 : Nat) ^ 32 = 4294967296 from rfl, List.length_replicate, Nat.zero_add, Nat.mul_comm (4294967296 ^ d), Nat.mul_assoc]
    have h2s : 2 ^ s < 2 ^ 32 := Nat.pow_lt_pow_right (by omega) hs
    have e9 : ((2 : Int) ^ s % 4294967296) = ((2 ^ s : Nat) : Int) := by
      rw [show ((2 : Int) ^ s) = ((2 ^ s : Nat) : Int) from by simp]
      exact Int.emod_eq_of_lt (Int.natCast_nonneg _) (Int.ofNat_lt.2 h2s)
    obtain ⟨ts, hts⟩ : ∃ ts, ts = 2 ^ s := ⟨_, rfl⟩
    rw [← hts] at h2s e9 hvl
    have hts32 : ts < 4294967296 := by omega
    have Hvl := Lib.hid hvl
    clear hvl hts h2s
    go_wp2_with fail
    rw [← hln.out]
    refine (rsmall_any A1 c1 _ ts _ _ hrd (Nat.le_refl _) hdl hts32 (by have := hln.out; omega)).mono ?_
    rintro e w5 ⟨zs, A7, c7, rfl, hnz, hres, hb5⟩
    go_wp2
    go_ret
    rw [Hvl.out] at hnz
    exact ⟨zs, A7, c7, rfl, hnz, hres.mono hbel.size, hbel.trans (hb5.mono hbel.size)⟩
end
end Go.Proofs.YtogkfpbapjjgfaaDoor
