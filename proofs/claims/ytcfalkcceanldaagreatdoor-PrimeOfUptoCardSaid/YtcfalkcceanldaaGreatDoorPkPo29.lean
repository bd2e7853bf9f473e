/- The contract of the reference's Div. Conditions: the divisor is not 0; fewer limbs than any slice can have. The places of the bits that are 1: plain mathematics. No conditions. The contracts of the reference's Of and of nat.Uint64. No conditions beyond the sizes. The contracts of the reference's operations on sizes that are held. Conditions: at most 2^26 limbs. -/
import Derived.Test.YtcfalkcceanldaaGreatDoorPkPo28
import Derived.Test.YtcfalkcceanldaaGreatDoorPkPo18
import Derived.Lib.TrailingZeros
import Derived.Test.YtcfalkcceanldaaGreatDoorPkPo17
import Derived.Shelf.Spec.TrailingZeros
namespace Go.Proofs.YtcfalkcceanldaaGreatDoor
section
open Go.RowKit

theorem Num.len_le {b : Nat} {zs : List Nat} {n k : Nat} (hb : 1 < b) (h : Num b zs n) (hn : n < b ^ k) : zs.length ≤ k := by
  by_cases h0 : zs = []
  · subst h0; simp
  · have h1 := h.ge h0
    have h2 : b ^ (zs.length - 1) < b ^ k := by omega
    have := (Nat.pow_lt_pow_iff_right hb).1 h2
    omega

theorem mul_lt_pow {b n t l : Nat} (hn : n < b ^ l) (ht : t < b) : n * t < b ^ (l + 1) := by
  have h1 : n * t ≤ n * b := Nat.mul_le_mul_left _ (Nat.le_of_lt ht)
  have h2 : n * b < b ^ l * b := (Nat.mul_lt_mul_right (by omega)).2 hn
  rw [Nat.pow_succ]
  omega
theorem add_lt_pow {b n x r l : Nat} (hn : n < b ^ l) (hx : x < b) (hr : r < n) : x + b * r < b ^ (l + 1) := by
  have h1 : b * (r + 1) ≤ b * b ^ l := Nat.mul_le_mul_left _ (by omega)
  rw [Nat.mul_add, Nat.mul_one] at h1
  rw [Nat.pow_succ, Nat.mul_comm (b ^ l)]
  omega
theorem digit_or (D j d0 : Nat) (hj : j < 32) (hD : D < 4294967296) (h : d0 = D / 2 ^ (j + 1) * 2 ^ (j + 1)) : bits BinOp.or IntKind.u32 (d0 : Int) (2 ^ j % 4294967296) = ((d0 + 2 ^ j : Nat) : Int) ∧ d0 + 2 ^ j < 4294967296 := by
  have hp : 0 < 2 ^ j := Nat.two_pow_pos j
  have hj2 : 2 ^ j < 2 ^ 32 := Nat.pow_lt_pow_right (by omega) hj
  have hd : d0 ≤ D := by rw [h]; exact Nat.div_mul_le_self _ _
  have e1 : ((2 : Int) ^ j % 4294967296) = ((2 ^ j : Nat) : Int) := by
    rw [show ((2 : Int) ^ j) = ((2 ^ j : Nat) : Int) from by simp]; omega
  have e2 : d0 ||| 2 ^ j = d0 + 2 ^ j := by
    rw [h, or_shift (2 ^ j) (D / 2 ^ (j + 1)) (j + 1) (Nat.pow_lt_pow_right (by omega) (by omega)), Nat.mul_comm, Nat.add_comm]
  refine ⟨?_, ?_⟩
  · rw [e1, u32_or_nat d0 (2 ^ j) (by omega) (by omega), e2]
  · have e3 : 2 ^ (31 - j) * 2 ^ (j + 1) = 4294967296 := by rw [← Nat.pow_add, show 31 - j + (j + 1) = 32 from by omega]
    have h4 : D / 2 ^ (j + 1) < 2 ^ (31 - j) := by rw [Nat.div_lt_iff_lt_mul (Nat.two_pow_pos _), e3]; exact hD
    have h5 : (D / 2 ^ (j + 1) + 1) * 2 ^ (j + 1) ≤ 2 ^ (31 - j) * 2 ^ (j + 1) := Nat.mul_le_mul_right _ h4
    rw [e3, Nat.succ_mul, ← h, Nat.pow_succ] at h5
    omega

set_option maxHeartbeats 1600000 in
theorem rdiv_any (A A2 : Option Addr) (c c2 : Nat) (xs ys : List Nat) (w : World) (B : Nat) (hr : Rd w B A (u32s xs)) (hr2 : Rd w B A2 (u32s ys)) (hB : B ≤ w.heap.size) (hd : Dig 4294967296 xs) (hd2 : Dig 4294967296 ys) (hm : xs.length ≤ 70368744170000) (hm2 : ys.length ≤ 35184372088700) (hpos : 0 < val 4294967296 ys) :
    Calls Tryz.prog 56 #[.slice A xs.length c, .slice A2 ys.length c2] w fun e w' => ∃ qs rs A1 c1 A3 c3, e = .returned (.tuple #[.slice A1 qs.length c1, .slice A3 rs.length c3]) ∧ Num 4294967296 qs (val 4294967296 xs / val 4294967296 ys) ∧ Num 4294967296 rs (val 4294967296 xs % val 4294967296 ys) ∧ Res w' w.heap.size 28 A1 c1 (u32s qs) ∧ Res w' w.heap.size 28 A3 c3 (u32s rs) ∧ Below w.heap.size w w' := by
  have hl1 := trimL_length_le xs
  have hl2 := trimL_length_le ys
  obtain ⟨n, hnv⟩ : ∃ n, n = val 4294967296 ys := ⟨_, rfl⟩
  have hn2 : Num 4294967296 (trimL ys) n := by rw [hnv]; exact Num.of_trim hd2
  have Hvx := Lib.hid (val_trim 4294967296 xs)
  rw [← hnv] at hpos ⊢
  have hdp := hd.trim_
  have hdq := hn2.1
  go_enter Tryz.func56, Tryz.ntmps56
  go_wp2_with fail
  refine (rnorm_any A c xs _ B hr hB (by omega)).mono ?_
  rintro e w1 ⟨A1, c1, rfl, hres1, hb1⟩
  go_wp2_with fail
  refine (rnorm_any A2 c2 ys _ B (hr2.below (hb1.mono hB)) (Nat.le_trans hB hb1.size) (by omega)).mono ?_
  rintro e w2 ⟨A3, c3, rfl, hres2, hb2⟩
  have hres1' := hres1.below hb2 (Nat.le_refl _)
  have hra := hres1'.rd
  have hrb := hres2.rd
  have hb12 := hb1.trans (hb2.mono hb1.size)
  obtain ⟨ps, hps⟩ : ∃ ps, ps = trimL xs := ⟨_, rfl⟩
  obtain ⟨qs0, hqs0⟩ : ∃ qs0, qs0 = trimL ys := ⟨_, rfl⟩
  rw [← hps] at hl1 hdp hra
  rw [← hqs0] at hl2 hdq hrb hn2
  rw [← hps, ← hqs0]
  have Hps := Lib.hid hps
  have hvn : Hid (val 4294967296 qs0 = n) := hn2.2.2
  have hnlt := hn2.lt
  have hmk := fun W => mk32 ps.length (by omega) W
  have hs1 : w.heap.size ≤ w2.heap.size := hb12.size
  have hpl : ps.length ≤ 70368744170000 := by omega
  have hql : qs0.length ≤ 35184372088700 := by omega
  clear hps hqs0 hres1 hres1' hres2 hb1 hb2 hnv hr hr2
  go_wp2_with fail
  go_loopw [7, 8, 9, 10, 11] (fun rv i _ _ _ wr => ∃ (k R : Nat) (qs rs : List Nat) (A4 : Option Addr) (c4 : Nat), k ≤ ps.length ∧ i = .int .i64 ((k : Int) - 1) ∧ rv = .slice A4 rs.length c4 ∧ Num 4294967296 rs R ∧ Res wr (w2.heap.size + 1) 28 A4 c4 (u32s rs) ∧ Blk wr w2.heap.size 28 (u32s qs) ∧ Longed ps n k qs R ∧ Below w2.heap.size w2 wr) (fun _ i _ _ _ _ => (intOf i + 1).toNat)
  case atStart => exact ⟨ps.length, 0, List.replicate ps.length 0, [], none, 0, Nat.le_refl _, by go_num, rfl, Num.zero_ _, Res.none_, Blk.new_ (by simp [u32s]), Longed.start ps n hpos, (Below.refl _ _).alloc (Nat.le_refl _) _⟩
  case round =>
    obtain ⟨k, R, qs, rs, A4, c4, hk, rfl, rfl, hnr, hrr, hblk, hlg, hbel⟩ := hrel
    rcases k with _ | k
    · obtain ⟨hv1, hv2⟩ := hlg.last
      rw [Hps.out, Hvx.out] at hv1 hv2
      have hqlen : Hid (qs.length = ps.length) := hlg.1
      have hqm : qs.length ≤ 70368744177664 := by rw [hlg.1]; omega
      have hrd := (Res.of_blk0 hblk (Nat.le_refl _) (by rw [u32s_length]; omega)).rd
      have Hv1 := Lib.hid hv1
      have Hv2 := Lib.hid hv2
      clear hv1 hv2
      go_wp2_with fail
      rw [← hqlen.out]
      refine (rnorm_any _ _ qs wr _ hrd (Nat.le_refl _) hqm).mono ?_
      rintro e w5 ⟨A7, c7, rfl, hres, hb5⟩
      go_wp2
      go_ret2
      have hs2 := hbel.size
      refine ⟨trimL qs, rs, A7, c7, A4, c4, rfl, ?_, ?_, hres.mono (by omega), (hrr.below hb5 (Nat.le_refl _)).mono (by omega), hb12.trans ((hbel.trans (hb5.mono hs2)).mono hs1)⟩
      · rw [← Hv1.out]; exact Num.of_trim hlg.2.1
      · rw [← Hv2.out]; exact hnr
    · rw [show ((k + 1 : Nat) : Int) - 1 = (k : Int) from by omega]
      have hkp : k < ps.length := by omega
      have hrl : rs.length ≤ qs0.length := hnr.len_le (by omega) (Nat.lt_trans hlg.2.2.1 hnlt)
      obtain ⟨b, off, rfl, hbb, hcell⟩ := hra (by intro e; have := u32s_length ps; rw [e] at this; simp at this; omega)
      have hx := (hbel.cell (p := ⟨b, off + k, none⟩) hbb).trans (hcell k _ (u32s_at hkp))
      have hxd := hdp.at_ k hkp
      clear hcell
      go_wp2_with fail
      refine (rshift_any A4 c4 rs ps[k] _ _ hrr.rd (Nat.le_refl _) hnr.1 hxd (by omega)).mono ?_
      rintro e w3 ⟨ts, A5, c5, rfl, hnt, hrt, hb3⟩
      have hs3 := hb3.size
      have hs2 := hbel.size
      have hblk3 := hblk.below hb3 hblk.lt
      have hbel3 := hbel.trans (hb3.mono hs2)
      go_wp2_with fail
      have htl : ts.length ≤ qs0.length + 1 := by
        refine hnt.len_le (by omega) ?_
        rw [hnr.2.2]
        exact add_lt_pow hnlt hxd hlg.2.2.1
      refine (rcmp_any A5 A3 c5 c3 ts qs0 _ w3.heap.size hrt.rd (hrb.below hbel3 |>.mono (Nat.le_trans hs2 hs3)) hnt.1 hdq (by omega) (by omega)).mono ?_
      rintro e w4 ⟨rfl, rfl⟩
      have hvt : val 4294967296 ts = ps[k] + 4294967296 * R := by rw [hnt.2.2, hnr.2.2]
      rw [hvt, hvn.out]
      obtain ⟨R1, hR1⟩ : ∃ R1, R1 = ps[k] + 4294967296 * R := ⟨_, rfl⟩
      rw [← hR1] at hvt ⊢
      have hnt1 : Num 4294967296 ts R1 := by rw [← hvt]; exact ⟨hnt.1, hnt.2.1, rfl⟩
      rcases Nat.lt_or_ge R1 n with hlt | hge
      · rw [show cmpN R1 n = -1 from by simp [cmpN, hlt]]
        have hsm := hlg.small hkp (by rw [← hR1]; exact hlt)
        rw [← hR1] at hsm
        clear hR1 hvt hx
        go_wp2
        go_roundw
        case rel => exact ⟨k, R1, qs, ts, A5, c5, by omega, by go_num, rfl, hnt1, hrt.mono (by have := hblk.lt; omega), hblk3, hsm, hbel3⟩
        case measure => simp [intOf]
      · have hc0 : 0 ≤ cmpN R1 n := by unfold cmpN; split <;> (try split) <;> omega
        obtain ⟨cm, hcm⟩ : ∃ cm : Int, cm = cmpN R1 n := ⟨_, rfl⟩
        rw [← hcm] at hc0 ⊢
        obtain ⟨hD, hst⟩ := hlg.step hkp hxd
        rw [← hR1] at hD hst
        obtain ⟨D, hDe⟩ : ∃ D, D = R1 / n := ⟨_, rfl⟩
        rw [← hDe] at hD hst
        have HDe := Lib.hid hDe
        have Hst := Lib.hid hst
        clear hcm hR1 hvt hx hDe hst
        go_wp2_with fail
        go_loopw [9, 10, 11] (fun dv kv _ wq => ∃ j : Nat, j ≤ 32 ∧ kv = .int .i64 ((j : Int) - 1) ∧ dv = .int .u32 ((D / 2 ^ j * 2 ^ j : Nat) : Int) ∧ Below w3.heap.size w3 wq) (fun _ kv _ _ => (intOf kv + 1).toNat)
        case atStart => exact ⟨32, by omega, by go_num, by rw [Nat.div_eq_of_lt hD]; rfl, Below.refl _ _⟩
        case round =>
          obtain ⟨j, hj, rfl, rfl, hbq⟩ := hrel
          rcases j with _ | j
          · simp only [Nat.pow_zero, Nat.div_one, Nat.mul_one]
            have hkq : k < qs.length := by rw [hlg.1]; exact hkp
            have hbq2 := hblk3.below hbq hblk3.lt
            have hcq := (hbq2.cell k).trans (u32s_at hkq)
            have hfq := hbq2.frozen k
            have hbs : Blk (wr.setCell ⟨w2.heap.size, k, none⟩ (.int .u32 (D : Int))) w2.heap.size 28 (u32s (qs.set k D)) := by
              have := hbq2.set_ k (Value.int IntKind.u32 (D : Int))
              rwa [u32s_set] at this
            have hs4 := hbq.size
            have hb2s : Below w2.heap.size w2 (wr.setCell ⟨w2.heap.size, k, none⟩ (.int .u32 (D : Int))) := (hbel3.trans (hbq.mono (Nat.le_trans hs2 hs3))).setCell (p := ⟨w2.heap.size, k, none⟩) (Nat.le_refl _) _
            have hrs : Res (wr.setCell ⟨w2.heap.size, k, none⟩ (.int .u32 (D : Int))) (w2.heap.size + 1) 28 A5 c5 (u32s ts) := ((hrt.mono (by have := hblk.lt; omega)).below hbq (Nat.le_refl _)).setCell (by show w2.heap.size < _; omega) _
            obtain ⟨ws, hws⟩ : ∃ ws, ws = wr.setCell ⟨w2.heap.size, k, none⟩ (.int .u32 (D : Int)) := ⟨_, rfl⟩
            go_wp2_with fail
            rw [← hws] at hbs hb2s hrs ⊢
            have hzs := hb2s.size
            refine (rsmall_any A3 c3 qs0 D _ _ (hrb.below hb2s) hzs hdq hD (by omega)).mono ?_
            rintro e w5 ⟨ms, A6, c6, rfl, hnm, hrm, hb5⟩
            have hmt : ms.length ≤ qs0.length + 1 := by
              refine hnm.len_le (by omega) ?_
              rw [hvn.out]
              exact mul_lt_pow hnlt hD
            have hmv : val 4294967296 ms ≤ val 4294967296 ts := by
              rw [hnm.2.2, hnt1.2.2, hvn.out, HDe.out]; exact Nat.mul_div_le _ _
            have hb25 := hb2s.trans (hb5.mono hzs)
            have hrs5 := hrs.below hb5 (Nat.le_refl _)
            clear hws
            go_wp2_with fail
            refine (rsub_any A5 A6 c5 c6 ts ms _ w5.heap.size hrs5.rd hrm.rd (Nat.le_refl _) hnt1.1 hnm.1 (by omega) (by omega) hmv).mono ?_
            rintro e w6 ⟨ns, A7, c7, rfl, hnn, hrn, hb6⟩
            have hnv : Num 4294967296 ns (R1 % n) := by
              have e1 : val 4294967296 ts - val 4294967296 ms = R1 % n := by
                rw [hnm.2.2, hnt1.2.2, hvn.out, HDe.out]
                have := Nat.div_add_mod R1 n
                omega
              rw [← e1]; exact hnn
            have hsz5 := hb5.size
            have hblt := hbs.lt
            go_wp2
            go_roundw
            case rel =>
              refine ⟨k, R1 % n, qs.set k D, ns, A7, c7, by omega, by go_num, rfl, hnv, hrn.mono (by omega), (hbs.below hb5 hblt).below hb6 (by omega), Hst.out, hb25.trans (hb6.mono (by omega))⟩
            case measure => simp [intOf]
          · rw [show ((j + 1 : Nat) : Int) - 1 = (j : Int) from by omega]
            obtain ⟨d0, hd0⟩ : ∃ d0, d0 = D / 2 ^ (j + 1) * 2 ^ (j + 1) := ⟨_, rfl⟩
            have hd0b : d0 < 4294967296 := by rw [hd0]; exact Nat.lt_of_le_of_lt (Nat.div_mul_le_self _ _) hD
            rw [← hd0]
            obtain ⟨eor, htb⟩ := digit_or D j d0 (by omega) hD hd0
            obtain ⟨tt, htt⟩ : ∃ tt, tt = d0 + 2 ^ j := ⟨_, rfl⟩
            rw [← htt] at eor htb
            have Hd0 := Lib.hid hd0
            have Htt := Lib.hid htt
            clear hd0 htt
            go_wp2_with fail
            refine (rsmall_any A3 c3 qs0 tt _ _ ((hrb.below hbel3).below (hbq.mono (Nat.le_trans hs2 hs3))) (Nat.le_trans (Nat.le_trans hs2 hs3) hbq.size) hdq htb (by omega)).mono ?_
            rintro e w5 ⟨ms, A6, c6, rfl, hnm, hrm, hb5⟩
            have hmt : ms.length ≤ qs0.length + 1 := by
              refine hnm.len_le (by omega) ?_
              rw [hvn.out]
              exact mul_lt_pow hnlt htb
            have hb35 := hbq.trans (hb5.mono hbq.size)
            have hrt5 := hrt.rd.below hb35
            have hsz5 := hb35.size
            go_wp2_with fail
            refine (rcmp_any A6 A5 c6 c5 ms ts _ w5.heap.size hrm.rd (hrt5.mono hsz5) hnm.1 hnt1.1 (by omega) (by omega)).mono ?_
            rintro e w6 ⟨rfl, rfl⟩
            rw [hnm.2.2, hnt1.2.2, hvn.out]
            by_cases hle : tt ≤ D
            · have h1 : tt * n ≤ R1 := by rw [← Nat.le_div_iff_mul_le hpos, ← HDe.out]; exact hle
              have hc1 : cmpN (n * tt) R1 ≤ 0 := by
                rw [Nat.mul_comm]; unfold cmpN; split <;> (try split) <;> omega
              obtain ⟨cm2, hcm2⟩ : ∃ cm2 : Int, cm2 = cmpN (n * tt) R1 := ⟨_, rfl⟩
              rw [← hcm2] at hc1 ⊢
              have hby := bit_yes D j (by rw [← Hd0.out, ← Htt.out]; exact hle)
              rw [← Hd0.out, ← Htt.out] at hby
              have Hby := Lib.hid hby
              clear hcm2 hby h1 hle
              go_wp2
              go_roundw
              case rel => exact ⟨j, by omega, by go_num, by rw [Hby.out], hb35⟩
              case measure => simp [intOf]
            · have h1 : R1 < tt * n := by
                rcases Nat.lt_or_ge R1 (tt * n) with h | h
                · exact h
                · exact absurd (by rw [HDe.out, Nat.le_div_iff_mul_le hpos]; exact h) hle
              have hc1 : cmpN (n * tt) R1 = 1 := by
                rw [Nat.mul_comm]; unfold cmpN; rw [if_neg (by omega), if_pos h1]
              rw [hc1]
              have hbn := bit_no D j (by rw [← Hd0.out, ← Htt.out]; exact hle)
              rw [← Hd0.out] at hbn
              have Hbn := Lib.hid hbn
              clear hc1 hbn h1 hle
              go_wp2
              go_roundw
              case rel => exact ⟨j, by omega, by go_num, by rw [Hbn.out], hb35⟩
              case measure => simp [intOf]
end
section
open Go.RowKit

/-- The i-th bit of a number in limbs. -/
def bitAt (xs : List Nat) (i : Nat) : Nat := at0 xs (i / 32) / 2 ^ (i % 32) % 2
/-- How many ones. -/
def pop (n : Nat) : Nat := if h : n = 0 then 0 else n % 2 + pop (n / 2)
termination_by n
decreasing_by omega
def pops : List Nat → Nat
  | [] => 0
  | x :: xs => pop x + pops xs
theorem pop_zero : pop 0 = 0 := by rw [pop]; simp
theorem pop_rec (n : Nat) : pop n = n % 2 + pop (n / 2) := by
  by_cases h : n = 0
  · subst h; simp [pop_zero]
  · conv => lhs; rw [pop]
    simp [h]
theorem pop_double (n : Nat) : pop (2 * n) = pop n := by
  rw [pop_rec, show 2 * n % 2 = 0 from by omega, show 2 * n / 2 = n from by omega]; omega
theorem pop_odd (n : Nat) : pop (2 * n + 1) = pop n + 1 := by
  rw [pop_rec, show (2 * n + 1) % 2 = 1 from by omega, show (2 * n + 1) / 2 = n from by omega]; omega
theorem pop_shift (k n : Nat) : pop (2 ^ k * n) = pop n := by
  induction k with
  | zero => simp
  | succ k ih => rw [Nat.pow_succ, Nat.mul_comm (2 ^ k) 2, Nat.mul_assoc, pop_double, ih]
theorem pops_append (xs ys : List Nat) : pops (xs ++ ys) = pops xs + pops ys := by
  induction xs with
  | nil => simp [pops]
  | cons x xs ih => simp only [List.cons_append, pops, ih]; omega
theorem pops_take_succ (xs : List Nat) (k : Nat) (h : k < xs.length) : pops (xs.take (k + 1)) = pops (xs.take k) + pop xs[k] := by
  rw [List.take_succ_eq_append_getElem h, pops_append]
  simp [pops]
theorem pop_le : ∀ (n x : Nat), x < 2 ^ n → pop x ≤ n
  | 0, x, h => by
    have : x = 0 := by simpa using h
    rw [this, pop_zero]; omega
  | n + 1, x, h => by
    rw [pop_rec]
    have := pop_le n (x / 2) (by rw [Nat.pow_succ] at h; omega)
    omega
theorem pops_le {xs : List Nat} (hd : Dig 4294967296 xs) : pops xs ≤ 32 * xs.length := by
  induction xs with
  | nil => simp [pops]
  | cons x xs ih =>
    have h1 := pop_le 32 x hd.head_
    have h2 := ih hd.tail_
    simp only [pops, List.length_cons]; omega
theorem pops_trim (xs : List Nat) : pops (trimL xs) = pops xs := by
  induction xs with
  | nil => rfl
  | cons x xs ih =>
    simp only [trimL]
    split
    · rename_i e
      rw [e] at ih
      split
      · rename_i h0; rw [h0]; simp only [pops, pop_zero] at *; omega
      · simp only [pops] at *; omega
    · rename_i e
      rw [e] at ih
      simp only [pops] at *; omega

theorem bitAt_test (xs : List Nat) (i : Nat) : (at0 xs (i / 32)).testBit (i % 32) = decide (bitAt xs i = 1) := by
  rw [Nat.testBit_eq_decide_div_mod_eq]; rfl
theorem bitAt_in {xs : List Nat} {k t : Nat} (h : k < xs.length) (ht : t < 32) : bitAt xs (32 * k + t) = xs[k] / 2 ^ t % 2 := by
  unfold bitAt
  rw [show (32 * k + t) / 32 = k from by omega, show (32 * k + t) % 32 = t from by omega, at0_in h]
theorem bit_one {x t : Nat} (h : x.testBit t = true) : x / 2 ^ t % 2 = 1 := by
  rw [Nat.testBit_eq_decide_div_mod_eq] at h; exact of_decide_eq_true h
theorem bit_zero {x t : Nat} (h : x.testBit t = false) : x / 2 ^ t % 2 = 0 := by
  rw [Nat.testBit_eq_decide_div_mod_eq] at h
  have := of_decide_eq_false h
  omega

/-- What the step to the next one does. -/
structure Low (y t z : Nat) : Prop where
  lt : t < 32
  one : y.testBit t = true
  below : ∀ j, j < t → y.testBit j = false
  rest : ∀ j, z.testBit j = true → y.testBit j = true ∧ t < j
  pops : pop z + 1 = pop y
  less : z < y
theorem low_of {y : Nat} (h0 : y ≠ 0) (h : y < 4294967296) : Low y (Lib.ctz 32 y) (y &&& (y - 1)) := by
  obtain ⟨m, hm, hk⟩ := Lib.ctzFrom_spec 32 y (by omega) h
  have e0 : Lib.ctz 32 y = Lib.ctzFrom 32 y := by unfold Lib.ctz; rw [if_neg h0]
  rw [e0]
  obtain ⟨k, hke⟩ : ∃ k, k = Lib.ctzFrom 32 y := ⟨_, rfl⟩
  rw [← hke] at hm hk ⊢
  have hp := Nat.two_pow_pos k
  have e1 : y - 1 = 2 ^ k * (2 * m) + (2 ^ k - 1) := by rw [hm, Nat.mul_add]; omega
  have e2 : y = 2 ^ k * (2 * m + 1) + 0 := by rw [← hm]; rfl
  have b1 : ∀ j, y.testBit j = if j < k then false else (2 * m + 1).testBit (j - k) := fun j => by
    rw [e2, Nat.testBit_two_pow_mul_add _ hp]; simp
  have b2 : ∀ j, (y - 1).testBit j = if j < k then (2 ^ k - 1).testBit j else (2 * m).testBit (j - k) := fun j => by
    rw [e1, Nat.testBit_two_pow_mul_add _ (by omega)]
  have b3 : ∀ j, (2 ^ k * (2 * m)).testBit j = if j < k then false else (2 * m).testBit (j - k) := fun j => by
    have := Nat.testBit_two_pow_mul_add (2 * m) hp j
    rw [Nat.add_zero] at this
    rw [this]; simp
  have o1 : ∀ t, ((2 * m + 1).testBit t && (2 * m).testBit t) = (2 * m).testBit t := fun t => by
    cases t with
    | zero => simp
    | succ t => rw [Nat.testBit_succ, Nat.testBit_succ, show (2 * m + 1) / 2 = m from by omega, show 2 * m / 2 = m from by omega]; simp
  have ez : y &&& (y - 1) = 2 ^ k * (2 * m) := by
    refine Nat.eq_of_testBit_eq fun j => ?_
    rw [Nat.testBit_and, b1, b2, b3]
    by_cases hj : j < k
    · simp [hj]
    · simp only [hj, if_false]; exact o1 _
  rw [ez]
  refine ⟨hk, ?_, ?_, ?_, ?_, ?_⟩
  · rw [b1]; simp
  · intro j hj; rw [b1]; simp [hj]
  · intro j hj
    rw [b3] at hj
    by_cases hjk : j < k
    · simp [hjk] at hj
    · simp only [hjk, if_false] at hj
      rw [b1]; simp only [hjk, if_false]
      obtain ⟨t, ht⟩ : ∃ t, t = j - k := ⟨_, rfl⟩
      rw [← ht] at hj ⊢
      have h1 := o1 t
      rw [hj] at h1
      refine ⟨by simpa using h1, ?_⟩
      rcases Nat.eq_zero_or_pos t with h2 | h2
      · subst h2; simp at hj
      · omega
  · conv => rhs; rw [hm]
    rw [pop_shift, pop_shift, pop_double, pop_odd]
  · conv => rhs; rw [hm]
    rw [Nat.mul_add]; omega

/-- A place. -/
abbrev Pl := { x : Nat // x < 1152921504606846976 }
/-- The last place yielded; -1 ahead of the first. -/
def lastI (pre : List Pl) : Int := match pre.getLast? with
  | none => -1
  | some x => (x.1 : Int)
theorem lastI_nil : lastI [] = -1 := rfl
theorem lastI_snoc (pre : List Pl) (x : Pl) : lastI (pre ++ [x]) = (x.1 : Int) := by simp [lastI]
/-- Rising places, each of a one. -/
def Good (xs : List Nat) (pre : List Pl) : Prop := ∀ (p : List Pl) (x : Pl), (p ++ [x]) <+: pre → lastI p < (x.1 : Int) ∧ bitAt xs x.1 = 1
theorem Good.nil_ (xs : List Nat) : Good xs [] := fun p x h => by
  have := List.prefix_nil.1 h
  simp at this
theorem Good.step {xs : List Nat} {pre : List Pl} (h : Good xs pre) (x : Pl) (h1 : lastI pre < (x.1 : Int)) (h2 : bitAt xs x.1 = 1) : Good xs (pre ++ [x]) := fun p y hp => by
  rcases List.prefix_concat_iff.1 hp with e | e
  · obtain ⟨rfl, e2⟩ := List.append_inj' e rfl
    obtain rfl : y = x := by simpa using e2
    exact ⟨h1, h2⟩
  · exact h p y e
theorem Good.last {xs : List Nat} {pre : List Pl} {x : Pl} (h : Good xs (pre ++ [x])) : lastI pre < (x.1 : Int) ∧ bitAt xs x.1 = 1 := h pre x (List.prefix_refl _)

/-- Between two limbs; within one. -/
structure Limbs (xs : List Nat) (k : Nat) (pre : List Pl) : Prop where
  le : k ≤ xs.length
  good : Good xs pre
  count : pre.length = pops (xs.take k)
  last : lastI pre < 32 * (k : Int)
structure Inner (xs : List Nat) (k y : Nat) (pre : List Pl) : Prop where
  lt : k < xs.length
  yb : y < 4294967296
  good : Good xs pre
  count : pre.length + pop y = pops (xs.take (k + 1))
  last : lastI pre < 32 * ((k : Int) + 1)
  bits : ∀ j, y.testBit j = true → at0 xs k / 2 ^ j % 2 = 1 ∧ lastI pre < 32 * (k : Int) + (j : Int)
theorem Limbs.start (xs : List Nat) : Limbs xs 0 [] := ⟨by omega, Good.nil_ _, by simp [pops], by rw [lastI_nil]; omega⟩
theorem Limbs.enter {xs : List Nat} {k : Nat} {pre : List Pl} (h : Limbs xs k pre) (hd : Dig 4294967296 xs) (hk : k < xs.length) : Inner xs k xs[k] pre := by
  have h1 := h.last
  refine ⟨hk, hd.at_ k hk, h.good, by rw [pops_take_succ _ _ hk, h.count], by omega, fun j hj => ⟨?_, by omega⟩⟩
  rw [at0_in hk]; exact bit_one hj
theorem Inner.leave {xs : List Nat} {k : Nat} {pre : List Pl} (h : Inner xs k 0 pre) : Limbs xs (k + 1) pre := by
  have h1 := h.lt
  have h2 := h.last
  refine ⟨by omega, h.good, by have := h.count; rw [pop_zero] at this; omega, by omega⟩
theorem Inner.ok {xs : List Nat} {k y t z : Nat} {pre : List Pl} (h : Inner xs k y pre) (hl : Low y t z) : lastI pre < 32 * (k : Int) + (t : Int) ∧ bitAt xs (32 * k + t) = 1 := by
  have h1 := h.bits t hl.one
  refine ⟨h1.2, ?_⟩
  rw [bitAt_in h.lt hl.lt, ← at0_in h.lt]
  exact h1.1
theorem Inner.step {xs : List Nat} {k y t z : Nat} {pre : List Pl} (h : Inner xs k y pre) (hl : Low y t z) (x : Pl) (hx : x.1 = 32 * k + t) : Inner xs k z (pre ++ [x]) := by
  have h1 := h.ok hl
  have h2 := hl.less
  have h3 := h.yb
  have h4 := hl.lt
  have h5 := hl.pops
  refine ⟨h.lt, by omega, h.good.step x (by rw [hx]; omega) (by rw [hx]; exact h1.2), ?_, ?_, ?_⟩
  · rw [List.length_append, List.length_singleton]; have := h.count; omega
  · rw [lastI_snoc, hx]; omega
  · intro j hj
    obtain ⟨a, b⟩ := hl.rest j hj
    refine ⟨(h.bits j a).1, ?_⟩
    rw [lastI_snoc, hx]; omega

/-- The lowest place of a one; 0 if there is none. -/
def TrailIs (xs : List Nat) (t : Nat) : Prop := (t < 32 * xs.length ∧ bitAt xs t = 1 ∧ ∀ j, j < t → bitAt xs j ≠ 1) ∨ (t = 0 ∧ ∀ j, j < 32 * xs.length → bitAt xs j ≠ 1)
theorem trail_at {xs : List Nat} {k t z : Nat} (hk : k < xs.length) (h0 : ∀ j, j < k → at0 xs j = 0) (hl : Low xs[k] t z) : TrailIs xs (32 * k + t) := by
  have h1 := hl.lt
  refine Or.inl ⟨by omega, by rw [bitAt_in hk h1]; exact bit_one hl.one, fun j hj => ?_⟩
  rcases Nat.lt_or_ge j (32 * k) with h | h
  · unfold bitAt
    rw [h0 (j / 32) (by omega)]; simp
  · obtain ⟨s, rfl⟩ := Nat.exists_eq_add_of_le h
    rw [bitAt_in hk (by omega), bit_zero (hl.below s (by omega))]
    omega
theorem trail_none {xs : List Nat} (h0 : ∀ j, j < xs.length → at0 xs j = 0) : TrailIs xs 0 := Or.inr ⟨rfl, fun j hj => by
  unfold bitAt
  rw [h0 (j / 32) (by omega)]; simp⟩
end
section
open Go.RowKit

set_option maxHeartbeats 400000 in
theorem rof_any (n : Nat) (h : n < 18446744073709551616) (w : World) :
    Calls Tryz.prog 61 #[.int .u64 (n : Int)] w fun e w' => ∃ zs A' c', e = .returned (.slice A' zs.length c') ∧ Num 4294967296 zs n ∧ Res w' w.heap.size 28 A' c' (u32s zs) ∧ Below w.heap.size w w' := by
  have e1 : IntKind.u32.wrap ((n : Int) % 4294967296) = ((n % 4294967296 : Nat) : Int) := by rw [Go.Proofs.wrap_u32']; omega
  have e2 : IntKind.u32.wrap ((n : Int) / 4294967296) = ((n / 4294967296 : Nat) : Int) := by rw [Go.Proofs.wrap_u32']; omega
  obtain ⟨a, ha⟩ : ∃ a, a = n % 4294967296 := ⟨_, rfl⟩
  obtain ⟨b, hb⟩ : ∃ b, b = n / 4294967296 := ⟨_, rfl⟩
  rw [← ha] at e1
  rw [← hb] at e2
  have hab : Hid (n = a + 4294967296 * b ∧ a < 4294967296 ∧ b < 4294967296) := by constructor <;> omega
  clear ha hb
  go_enter Tryz.func61, Tryz.ntmps61
  go_wp2_with (first | (simp only [e1, e2]) | (simp only [e1]) | (simp only [e2]))
  have hblk : Blk (w.alloc (.cells #[.int .u32 (a : Int), .int .u32 (b : Int)] 28)) w.heap.size 28 (u32s [a, b]) := Blk.new_ rfl
  obtain ⟨h1, h2, h3⟩ := hab.out
  have hd : Dig 4294967296 [a, b] := Dig.cons_ h2 (Dig.cons_ h3 (Dig.nil_ _))
  refine (rnorm_any (some ⟨w.heap.size, 0, none⟩) 2 [a, b] _ (w.heap.size + 1) ?_ ?_ ?_).mono ?_
  · exact Rd.of_blk hblk (by omega) 0 (fun k v hv => by rw [Nat.zero_add]; exact hv)
  · simp
  · simp
  rintro e w' ⟨A', c', rfl, hres, hb⟩
  go_wp2
  go_ret
  have hz : (w.alloc (.cells #[.int .u32 (a : Int), .int .u32 (b : Int)] 28)).heap.size = w.heap.size + 1 := by simp
  rw [hz] at hres hb
  exact ⟨_, A', c', rfl, by rw [h1]; simpa [val] using Num.of_trim hd, hres.mono (by omega), ((Below.refl _ _).alloc (Nat.le_refl _) _).trans (hb.mono (by omega))⟩

/-- What Uint64 answers. -/
def u64Of (xs : List Nat) : Nat := if (trimL xs).length ≤ 2 then val 4294967296 xs else 0
end
section
open Go.RowKit

section
variable {w w' : World} {A A2 : Option Addr} {c c2 n k K J : Nat} {xs ys : List Nat}
theorem Hv.rnorm (h : Hv w A c xs n K) (hK : K ≤ 67108864) : Calls Tryz.prog 62 #[.slice A xs.length c] w fun e w' => NOut w w' n e := by
  have hl1 := h.len
  refine (rnorm_any A c xs w w.heap.size h.rd (Nat.le_refl _) (by omega)).mono ?_
  rintro e w' ⟨A', c', rfl, hr, hb⟩
  exact ⟨_, A', c', rfl, by rw [← h.val_]; exact Num.of_trim h.dig, hr, hb⟩
theorem Hv.radd (h : Hv w A c xs n K) (h2 : Hv w A2 c2 ys k J) (hK : K ≤ 67108864) (hJ : J ≤ 67108864) : Calls Tryz.prog 82 #[.slice A xs.length c, .slice A2 ys.length c2] w fun e w' => NOut w w' (n + k) e := by
  have hl1 := h.len
  have hl2 := h2.len
  have h9 := radd_any A A2 c c2 xs ys w w.heap.size h.rd h2.rd (Nat.le_refl _) h.dig h2.dig (by omega) (by omega)
  rwa [h.val_, h2.val_] at h9
theorem Hv.rsub (h : Hv w A c xs n K) (h2 : Hv w A2 c2 ys k J) (hK : K ≤ 67108864) (hJ : J ≤ 67108864) (hle : k ≤ n) : Calls Tryz.prog 65 #[.slice A xs.length c, .slice A2 ys.length c2] w fun e w' => NOut w w' (n - k) e := by
  have hl1 := h.len
  have hl2 := h2.len
  have h9 := rsub_any A A2 c c2 xs ys w w.heap.size h.rd h2.rd (Nat.le_refl _) h.dig h2.dig (by omega) (by omega) (by rw [h.val_, h2.val_]; exact hle)
  rwa [h.val_, h2.val_] at h9
theorem Hv.rmul (h : Hv w A c xs n K) (h2 : Hv w A2 c2 ys k J) (hK : K ≤ 67108864) (hJ : J ≤ 67108864) : Calls Tryz.prog 84 #[.slice A xs.length c, .slice A2 ys.length c2] w fun e w' => NOut w w' (n * k) e := by
  have hl1 := h.len
  have hl2 := h2.len
  have t1 := trimL_length_le xs
  have t2 := trimL_length_le ys
  have h9 := rmul_any A A2 c c2 xs ys w w.heap.size h.rd h2.rd (Nat.le_refl _) h.dig h2.dig (by omega) (by omega) (by omega)
  rwa [h.val_, h2.val_] at h9
theorem Hv.rcmp (h : Hv w A c xs n K) (h2 : Hv w A2 c2 ys k J) (hK : K ≤ 67108864) (hJ : J ≤ 67108864) : Calls Tryz.prog 64 #[.slice A xs.length c, .slice A2 ys.length c2] w fun e w' => e = .returned (.int .i64 (cmpN n k)) ∧ w = w' := by
  have hl1 := h.len
  have hl2 := h2.len
  have h9 := rcmp_any A A2 c c2 xs ys w w.heap.size h.rd h2.rd h.dig h2.dig (by omega) (by omega)
  rwa [h.val_, h2.val_] at h9
theorem Hv.ncmp (h : Hv w A c xs n K) (h2 : Hv w A2 c2 ys k J) (hK : K ≤ 67108864) (hJ : J ≤ 67108864) : Calls Tryz.prog 93 #[.slice A xs.length c, .slice A2 ys.length c2] w fun e w' => e = .returned (.int .i64 (cmpN n k)) ∧ Dr w w' := by
  have hl1 := h.len
  have hl2 := h2.len
  have h9 := cmp_any A A2 c c2 xs ys w w.heap.size h.rd h2.rd h.dig h2.dig h.cap h2.cap (by omega) (by omega)
  rwa [h.val_, h2.val_] at h9
/-- What a division answers. -/
def QOut (w w' : World) (n k : Nat) (e : Ending) : Prop := ∃ qs rs A1 c1 A3 c3, e = .returned (.tuple #[.slice A1 qs.length c1, .slice A3 rs.length c3]) ∧ Num 4294967296 qs (n / k) ∧ Num 4294967296 rs (n % k) ∧ Res w' w.heap.size 28 A1 c1 (u32s qs) ∧ Res w' w.heap.size 28 A3 c3 (u32s rs) ∧ Below w.heap.size w w'
theorem Hv.rdiv (h : Hv w A c xs n K) (h2 : Hv w A2 c2 ys k J) (hK : K ≤ 67108864) (hJ : J ≤ 67108864) (hk : 0 < k) : Calls Tryz.prog 56 #[.slice A xs.length c, .slice A2 ys.length c2] w fun e w' => QOut w w' n k e := by
  have hl1 := h.len
  have hl2 := h2.len
  have h9 := rdiv_any A A2 c c2 xs ys w w.heap.size h.rd h2.rd (Nat.le_refl _) h.dig h2.dig (by omega) (by omega) (by rw [h2.val_]; exact hk)
  rwa [h.val_, h2.val_] at h9
theorem Hv.rzero (h : Hv w A c xs n K) (hK : K ≤ 67108864) : Calls Tryz.prog 23 #[.slice A xs.length c] w fun e w' => e = .returned (.bool (decide (n = 0))) ∧ w = w' := by
  have hl1 := h.len
  have h9 := zero_any A c xs w w.heap.size h.rd (by omega)
  have e : decide (trimL xs = []) = decide (n = 0) := by
    have := (Num.of_trim h.dig).nil_iff (by omega)
    rw [h.val_] at this
    exact decide_eq_decide.2 this
  rwa [e] at h9
theorem rof_out (n : Nat) (h : n < 18446744073709551616) (w : World) : Calls Tryz.prog 61 #[.int .u64 (n : Int)] w fun e w' => NOut w w' n e := rof_any n h w
theorem of_out (n : Nat) (h : n < 18446744073709551616) (w : World) : Calls Tryz.prog 46 #[.int .u64 (n : Int)] w fun e w' => NOut w w' n e := of_any n h w
theorem Hv.nbits (h : Hv w A c xs n K) (hK : K ≤ 67108864) : Calls Tryz.prog 32 #[.slice A xs.length c] w fun e w' => e = .returned (.int .i64 (bitsOf n : Nat)) ∧ w = w' := h.nlen hK
end
end
end Go.Proofs.YtcfalkcceanldaaGreatDoor
