/- The contract of the reference's Div. Conditions: the divisor is not 0; fewer limbs than any slice can have. -/
import Derived.Test.YtogkfpbapjjgfaaRefDivM
namespace Go.Proofs.Ytogkfpbapjjgfaa
open Go.RowKit

theorem Num.len_le {b : Nat} {zs : List Nat} {n k : Nat} (hb : 1 < b) (h : Num b zs n) (hn : n < b ^ k) : zs.length ≤ k := by
  by_cases h0 : zs = []
  · subst h0; simp
  · have h1 := h.ge h0
    have h2 : b ^ (zs.length - 1) < b ^ k := by omega
    have := (Nat.pow_lt_pow_iff_right hb).1 h2
    omega

theorem mul_lt_pow {b n t l : Nat} (hn : n < b ^ l) (ht : t < b) : n * t < b ^ (l + 1) := by
  have h1 : n * t ≤ n * b := Nat.mul_le_mul_left _ (Nat.le_of_lt ht)
  have h2 : n * b < b ^ l * b := (Nat.mul_lt_mul_right (by omega)).2 hn
  rw [Nat.pow_succ]
  omega
theorem add_lt_pow {b n x r l : Nat} (hn : n < b ^ l) (hx : x < b) (hr : r < n) : x + b * r < b ^ (l + 1) := by
  have h1 : b * (r + 1) ≤ b * b ^ l := Nat.mul_le_mul_left _ (by omega)
  rw [Nat.mul_add, Nat.mul_one] at h1
  rw [Nat.pow_succ, Nat.mul_comm (b ^ l)]
  omega
theorem digit_or (D j d0 : Nat) (hj : j < 32) (hD : D < 4294967296) (h : d0 = D / 2 ^ (j + 1) * 2 ^ (j + 1)) : bits BinOp.or IntKind.u32 (d0 : Int) (2 ^ j % 4294967296) = ((d0 + 2 ^ j : Nat) : Int) ∧ d0 + 2 ^ j < 4294967296 := by
  have hp : 0 < 2 ^ j := Nat.two_pow_pos j
  have hj2 : 2 ^ j < 2 ^ 32 := Nat.pow_lt_pow_right (by omega) hj
  have hd : d0 ≤ D := by rw [h]; exact Nat.div_mul_le_self _ _
  have e1 : ((2 : Int) ^ j % 4294967296) = ((2 ^ j : Nat) : Int) := by
    rw [show ((2 : Int) ^ j) = ((2 ^ j : Nat) : Int) from by simp]; omega
  have e2 : d0 ||| 2 ^ j = d0 + 2 ^ j := by
    rw [h, or_shift (2 ^ j) (D / 2 ^ (j + 1)) (j + 1) (Nat.pow_lt_pow_right (by omega) (by omega)), Nat.mul_comm, Nat.add_comm]
  refine ⟨?_, ?_⟩
  · rw [e1, u32_or_nat d0 (2 ^ j) (by omega) (by omega), e2]
  · have e3 : 2 ^ (31 - j) * 2 ^ (j + 1) = 4294967296 := by rw [← Nat.pow_add, show 31 - j + (j + 1) = 32 from by omega]
    have h4 : D / 2 ^ (j + 1) < 2 ^ (31 - j) := by rw [Nat.div_lt_iff_lt_mul (Nat.two_pow_pos _), e3]; exact hD
    have h5 : (D / 2 ^ (j + 1) + 1) * 2 ^ (j + 1) ≤ 2 ^ (31 - j) * 2 ^ (j + 1) := Nat.mul_le_mul_right _ h4
    rw [e3, Nat.succ_mul, ← h, Nat.pow_succ] at h5
    omega

set_option maxHeartbeats 1600000 in
theorem rdiv_any (A A2 : Option Addr) (c c2 : Nat) (xs ys : List Nat) (w : World) (B : Nat) (hr : Rd w B A (u32s xs)) (hr2 : Rd w B A2 (u32s ys)) (hB : B ≤ w.heap.size) (hd : Dig 4294967296 xs) (hd2 : Dig 4294967296 ys) (hm : xs.length ≤ 70368744170000) (hm2 : ys.length ≤ 35184372088700) (hpos : 0 < val 4294967296 ys) :
    Calls Try.prog 42 #[.slice A xs.length c, .slice A2 ys.length c2] w fun e w' => ∃ qs rs A1 c1 A3 c3, e = .returned (.tuple #[.slice A1 qs.length c1, .slice A3 rs.length c3]) ∧ Num 4294967296 qs (val 4294967296 xs / val 4294967296 ys) ∧ Num 4294967296 rs (val 4294967296 xs % val 4294967296 ys) ∧ Res w' w.heap.size 34 A1 c1 (u32s qs) ∧ Res w' w.heap.size 34 A3 c3 (u32s rs) ∧ Below w.heap.size w w' := by
  have hl1 := trimL_length_le xs
  have hl2 := trimL_length_le ys
  obtain ⟨n, hnv⟩ : ∃ n, n = val 4294967296 ys := ⟨_, rfl⟩
  have hn2 : Num 4294967296 (trimL ys) n := by rw [hnv]; exact Num.of_trim hd2
  have Hvx := Lib.hid (val_trim 4294967296 xs)
  rw [← hnv] at hpos ⊢
  have hdp := hd.trim_
  have hdq := hn2.1
  go_enter Try.func42, Try.ntmps42
  go_wp2_with fail
  refine (rnorm_any A c xs _ B hr hB (by omega)).mono ?_
  rintro e w1 ⟨A1, c1, rfl, hres1, hb1⟩
  go_wp2_with fail
  refine (rnorm_any A2 c2 ys _ B (hr2.below (hb1.mono hB)) (Nat.le_trans hB hb1.size) (by omega)).mono ?_
  rintro e w2 ⟨A3, c3, rfl, hres2, hb2⟩
  have hres1' := hres1.below hb2 (Nat.le_refl _)
  have hra := hres1'.rd
  have hrb := hres2.rd
  have hb12 := hb1.trans (hb2.mono hb1.size)
  obtain ⟨ps, hps⟩ : ∃ ps, ps = trimL xs := ⟨_, rfl⟩
  obtain ⟨qs0, hqs0⟩ : ∃ qs0, qs0 = trimL ys := ⟨_, rfl⟩
  rw [← hps] at hl1 hdp hra
  rw [← hqs0] at hl2 hdq hrb hn2
  rw [← hps, ← hqs0]
  have Hps := Lib.hid hps
  have hvn : Hid (val 4294967296 qs0 = n) := hn2.2.2
  have hnlt := hn2.lt
  have hmk := fun W => mk32 ps.length (by omega) W
  have hs1 : w.heap.size ≤ w2.heap.size := hb12.size
  have hpl : ps.length ≤ 70368744170000 := by omega
  have hql : qs0.length ≤ 35184372088700 := by omega
  clear hps hqs0 hres1 hres1' hres2 hb1 hb2 hnv hr hr2
  go_wp2_with fail
  go_loopw [7, 8, 9, 10, 11] (fun rv i _ _ _ wr => ∃ (k R : Nat) (qs rs : List Nat) (A4 : Option Addr) (c4 : Nat), k ≤ ps.length ∧ i = .int .i64 ((k : Int) - 1) ∧ rv = .slice A4 rs.length c4 ∧ Num 4294967296 rs R ∧ Res wr (w2.heap.size + 1) 34 A4 c4 (u32s rs) ∧ Blk wr w2.heap.size 34 (u32s qs) ∧ Longed ps n k qs R ∧ Below w2.heap.size w2 wr) (fun _ i _ _ _ _ => (intOf i + 1).toNat)
  case atStart => exact ⟨ps.length, 0, List.replicate ps.length 0, [], none, 0, Nat.le_refl _, by go_num, rfl, Num.zero_ _, Res.none_, Blk.new_ (by simp [u32s]), Longed.start ps n hpos, (Below.refl _ _).alloc (Nat.le_refl _) _⟩
  case round =>
    obtain ⟨k, R, qs, rs, A4, c4, hk, rfl, rfl, hnr, hrr, hblk, hlg, hbel⟩ := hrel
    rcases k with _ | k
    · obtain ⟨hv1, hv2⟩ := hlg.last
      rw [Hps.out, Hvx.out] at hv1 hv2
      have hqlen : Hid (qs.length = ps.length) := hlg.1
      have hqm : qs.length ≤ 70368744177664 := by rw [hlg.1]; omega
      have hrd := (Res.of_blk0 hblk (Nat.le_refl _) (by rw [u32s_length]; omega)).rd
      have Hv1 := Lib.hid hv1
      have Hv2 := Lib.hid hv2
      clear hv1 hv2
      go_wp2_with fail
      rw [← hqlen.out]
      refine (rnorm_any _ _ qs wr _ hrd (Nat.le_refl _) hqm).mono ?_
      rintro e w5 ⟨A7, c7, rfl, hres, hb5⟩
      go_wp2
      go_ret2
      have hs2 := hbel.size
      refine ⟨trimL qs, rs, A7, c7, A4, c4, rfl, ?_, ?_, hres.mono (by omega), (hrr.below hb5 (Nat.le_refl _)).mono (by omega), hb12.trans ((hbel.trans (hb5.mono hs2)).mono hs1)⟩
      · rw [← Hv1.out]; exact Num.of_trim hlg.2.1
      · rw [← Hv2.out]; exact hnr
    · rw [show ((k + 1 : Nat) : Int) - 1 = (k : Int) from by omega]
      have hkp : k < ps.length := by omega
      have hrl : rs.length ≤ qs0.length := hnr.len_le (by omega) (Nat.lt_trans hlg.2.2.1 hnlt)
      obtain ⟨b, off, rfl, hbb, hcell⟩ := hra (by intro e; have := u32s_length ps; rw [e] at this; simp at this; omega)
      have hx := (hbel.cell (p := ⟨b, off + k, none⟩) hbb).trans (hcell k _ (u32s_at hkp))
      have hxd := hdp.at_ k hkp
      clear hcell
      go_wp2_with fail
      refine (rshift_any A4 c4 rs ps[k] _ _ hrr.rd (Nat.le_refl _) hnr.1 hxd (by omega)).mono ?_
      rintro e w3 ⟨ts, A5, c5, rfl, hnt, hrt, hb3⟩
      have hs3 := hb3.size
      have hs2 := hbel.size
      have hblk3 := hblk.below hb3 hblk.lt
      have hbel3 := hbel.trans (hb3.mono hs2)
      go_wp2_with fail
      have htl : ts.length ≤ qs0.length + 1 := by
        refine hnt.len_le (by omega) ?_
        rw [hnr.2.2]
        exact add_lt_pow hnlt hxd hlg.2.2.1
      refine (rcmp_any A5 A3 c5 c3 ts qs0 _ w3.heap.size hrt.rd (hrb.below hbel3 |>.mono (Nat.le_trans hs2 hs3)) hnt.1 hdq (by omega) (by omega)).mono ?_
      rintro e w4 ⟨rfl, rfl⟩
      have hvt : val 4294967296 ts = ps[k] + 4294967296 * R := by rw [hnt.2.2, hnr.2.2]
      rw [hvt, hvn.out]
      obtain ⟨R1, hR1⟩ : ∃ R1, R1 = ps[k] + 4294967296 * R := ⟨_, rfl⟩
      rw [← hR1] at hvt ⊢
      have hnt1 : Num 4294967296 ts R1 := by rw [← hvt]; exact ⟨hnt.1, hnt.2.1, rfl⟩
      rcases Nat.lt_or_ge R1 n with hlt | hge
      · rw [show cmpN R1 n = -1 from by simp [cmpN, hlt]]
        have hsm := hlg.small hkp (by rw [← hR1]; exact hlt)
        rw [← hR1] at hsm
        clear hR1 hvt hx
        go_wp2
        go_roundw
        case rel => exact ⟨k, R1, qs, ts, A5, c5, by omega, by go_num, rfl, hnt1, hrt.mono (by have := hblk.lt; omega), hblk3, hsm, hbel3⟩
        case measure => simp [intOf]
      · have hc0 : 0 ≤ cmpN R1 n := by unfold cmpN; split <;> (try split) <;> omega
        obtain ⟨cm, hcm⟩ : ∃ cm : Int, cm = cmpN R1 n := ⟨_, rfl⟩
        rw [← hcm] at hc0 ⊢
        obtain ⟨hD, hst⟩ := hlg.step hkp hxd
        rw [← hR1] at hD hst
        obtain ⟨D, hDe⟩ : ∃ D, D = R1 / n := ⟨_, rfl⟩
        rw [← hDe] at hD hst
        have HDe := Lib.hid hDe
        have Hst := Lib.hid hst
        clear hcm hR1 hvt hx hDe hst
        go_wp2_with fail
        go_loopw [9, 10, 11] (fun dv kv _ wq => ∃ j : Nat, j ≤ 32 ∧ kv = .int .i64 ((j : Int) - 1) ∧ dv = .int .u32 ((D / 2 ^ j * 2 ^ j : Nat) : Int) ∧ Below w3.heap.size w3 wq) (fun _ kv _ _ => (intOf kv + 1).toNat)
        case atStart => exact ⟨32, by omega, by go_num, by rw [Nat.div_eq_of_lt hD]; rfl, Below.refl _ _⟩
        case round =>
          obtain ⟨j, hj, rfl, rfl, hbq⟩ := hrel
          rcases j with _ | j
          · simp only [Nat.pow_zero, Nat.div_one, Nat.mul_one]
            have hkq : k < qs.length := by rw [hlg.1]; exact hkp
            have hbq2 := hblk3.below hbq hblk3.lt
            have hcq := (hbq2.cell k).trans (u32s_at hkq)
            have hfq := hbq2.frozen k
            have hbs : Blk (wr.setCell ⟨w2.heap.size, k, none⟩ (.int .u32 (D : Int))) w2.heap.size 34 (u32s (qs.set k D)) := by
              have := hbq2.set_ k (Value.int IntKind.u32 (D : Int))
              rwa [u32s_set] at this
            have hs4 := hbq.size
            have hb2s : Below w2.heap.size w2 (wr.setCell ⟨w2.heap.size, k, none⟩ (.int .u32 (D : Int))) := (hbel3.trans (hbq.mono (Nat.le_trans hs2 hs3))).setCell (p := ⟨w2.heap.size, k, none⟩) (Nat.le_refl _) _
            have hrs : Res (wr.setCell ⟨w2.heap.size, k, none⟩ (.int .u32 (D : Int))) (w2.heap.size + 1) 34 A5 c5 (u32s ts) := ((hrt.mono (by have := hblk.lt; omega)).below hbq (Nat.le_refl _)).setCell (by show w2.heap.size < _; omega) _
            obtain ⟨ws, hws⟩ : ∃ ws, ws = wr.setCell ⟨w2.heap.size, k, none⟩ (.int .u32 (D : Int)) := ⟨_, rfl⟩
            go_wp2_with fail
            rw [← hws] at hbs hb2s hrs ⊢
            have hzs := hb2s.size
            refine (rsmall_any A3 c3 qs0 D _ _ (hrb.below hb2s) hzs hdq hD (by omega)).mono ?_
            rintro e w5 ⟨ms, A6, c6, rfl, hnm, hrm, hb5⟩
            have hmt : ms.length ≤ qs0.length + 1 := by
              refine hnm.len_le (by omega) ?_
              rw [hvn.out]
              exact mul_lt_pow hnlt hD
            have hmv : val 4294967296 ms ≤ val 4294967296 ts := by
              rw [hnm.2.2, hnt1.2.2, hvn.out, HDe.out]; exact Nat.mul_div_le _ _
            have hb25 := hb2s.trans (hb5.mono hzs)
            have hrs5 := hrs.below hb5 (Nat.le_refl _)
            clear hws
            go_wp2_with fail
            refine (rsub_any A5 A6 c5 c6 ts ms _ w5.heap.size hrs5.rd hrm.rd (Nat.le_refl _) hnt1.1 hnm.1 (by omega) (by omega) hmv).mono ?_
            rintro e w6 ⟨ns, A7, c7, rfl, hnn, hrn, hb6⟩
            have hnv : Num 4294967296 ns (R1 % n) := by
              have e1 : val 4294967296 ts - val 4294967296 ms = R1 % n := by
                rw [hnm.2.2, hnt1.2.2, hvn.out, HDe.out]
                have := Nat.div_add_mod R1 n
                omega
              rw [← e1]; exact hnn
            have hsz5 := hb5.size
            have hblt := hbs.lt
            go_wp2
            go_roundw
            case rel =>
              refine ⟨k, R1 % n, qs.set k D, ns, A7, c7, by omega, by go_num, rfl, hnv, hrn.mono (by omega), (hbs.below hb5 hblt).below hb6 (by omega), Hst.out, hb25.trans (hb6.mono (by omega))⟩
            case measure => simp [intOf]
          · rw [show ((j + 1 : Nat) : Int) - 1 = (j : Int) from by omega]
            obtain ⟨d0, hd0⟩ : ∃ d0, d0 = D / 2 ^ (j + 1) * 2 ^ (j + 1) := ⟨_, rfl⟩
            have hd0b : d0 < 4294967296 := by rw [hd0]; exact Nat.lt_of_le_of_lt (Nat.div_mul_le_self _ _) hD
            rw [← hd0]
            obtain ⟨eor, htb⟩ := digit_or D j d0 (by omega) hD hd0
            obtain ⟨tt, htt⟩ : ∃ tt, tt = d0 + 2 ^ j := ⟨_, rfl⟩
            rw [← htt] at eor htb
            have Hd0 := Lib.hid hd0
            have Htt := Lib.hid htt
            clear hd0 htt
            go_wp2_with fail
            refine (rsmall_any A3 c3 qs0 tt _ _ ((hrb.below hbel3).below (hbq.mono (Nat.le_trans hs2 hs3))) (Nat.le_trans (Nat.le_trans hs2 hs3) hbq.size) hdq htb (by omega)).mono ?_
            rintro e w5 ⟨ms, A6, c6, rfl, hnm, hrm, hb5⟩
            have hmt : ms.length ≤ qs0.length + 1 := by
              refine hnm.len_le (by omega) ?_
              rw [hvn.out]
              exact mul_lt_pow hnlt htb
            have hb35 := hbq.trans (hb5.mono hbq.size)
            have hrt5 := hrt.rd.below hb35
            have hsz5 := hb35.size
            go_wp2_with fail
            refine (rcmp_any A6 A5 c6 c5 ms ts _ w5.heap.size hrm.rd (hrt5.mono hsz5) hnm.1 hnt1.1 (by omega) (by omega)).mono ?_
            rintro e w6 ⟨rfl, rfl⟩
            rw [hnm.2.2, hnt1.2.2, hvn.out]
            by_cases hle : tt ≤ D
            · have h1 : tt * n ≤ R1 := by rw [← Nat.le_div_iff_mul_le hpos, ← HDe.out]; exact hle
              have hc1 : cmpN (n * tt) R1 ≤ 0 := by
                rw [Nat.mul_comm]; unfold cmpN; split <;> (try split) <;> omega
              obtain ⟨cm2, hcm2⟩ : ∃ cm2 : Int, cm2 = cmpN (n * tt) R1 := ⟨_, rfl⟩
              rw [← hcm2] at hc1 ⊢
              have hby := bit_yes D j (by rw [← Hd0.out, ← Htt.out]; exact hle)
              rw [← Hd0.out, ← Htt.out] at hby
              have Hby := Lib.hid hby
              clear hcm2 hby h1 hle
              go_wp2
              go_roundw
              case rel => exact ⟨j, by omega, by go_num, by rw [Hby.out], hb35⟩
              case measure => simp [intOf]
            · have h1 : R1 < tt * n := by
                rcases Nat.lt_or_ge R1 (tt * n) with h | h
                · exact h
                · exact absurd (by rw [HDe.out, Nat.le_div_iff_mul_le hpos]; exact h) hle
              have hc1 : cmpN (n * tt) R1 = 1 := by
                rw [Nat.mul_comm]; unfold cmpN; rw [if_neg (by omega), if_pos h1]
              rw [hc1]
              have hbn := bit_no D j (by rw [← Hd0.out, ← Htt.out]; exact hle)
              rw [← Hd0.out] at hbn
              have Hbn := Lib.hid hbn
              clear hc1 hbn h1 hle
              go_wp2
              go_roundw
              case rel => exact ⟨j, by omega, by go_num, by rw [Hbn.out], hb35⟩
              case measure => simp [intOf]
end Go.Proofs.Ytogkfpbapjjgfaa
