/- The contract of nat.Mul. Conditions: at most 2^30 limbs together. -/
import Derived.Test.YtogkfpbapjjgfaaProd
import Derived.Test.YtogkfpbapjjgfaaSubN
namespace Go.Proofs.Ytogkfpbapjjgfaa
open Go.RowKit

theorem num_eq {b m n : Nat} {zs : List Nat} (h : Num b zs m) (e : m = n) : Num b zs n := e ▸ h

set_option maxHeartbeats 1600000 in
theorem mul_any (A A2 : Option Addr) (c c2 : Nat) (xs ys : List Nat) (w : World) (B : Nat) (hr : Rd w B A (u32s xs)) (hr2 : Rd w B A2 (u32s ys)) (hB : B ≤ w.heap.size) (hd : Dig 4294967296 xs) (hd2 : Dig 4294967296 ys) (hc : xs.length ≤ c) (hc2 : ys.length ≤ c2) (hm : xs.length ≤ 281474976710656) (hm2 : ys.length ≤ 281474976710656) (hmm : (trimL xs).length + (trimL ys).length ≤ 1073741820) :
    Calls Try.prog 10 #[.slice A xs.length c, .slice A2 ys.length c2] w fun e w' => ∃ zs A' c', e = .returned (.slice A' zs.length c') ∧ Num 4294967296 zs (val 4294967296 xs * val 4294967296 ys) ∧ Res w' w.heap.size 34 A' c' (u32s zs) ∧ Below w.heap.size w w' := by
  have hl1 := trimL_length_le xs
  have hl2 := trimL_length_le ys
  obtain ⟨m, hmv⟩ : ∃ m, m = val 4294967296 xs := ⟨_, rfl⟩
  obtain ⟨n, hnv⟩ : ∃ n, n = val 4294967296 ys := ⟨_, rfl⟩
  have hn1 := Num.of_trim hd
  have hn2 := Num.of_trim hd2
  rw [← hmv] at hn1
  rw [← hnv] at hn2
  rw [← hmv, ← hnv]
  have hrt : Rd w B A (u32s (trimL xs)) := by rw [u32s_trim]; exact hr.take _
  have hrt2 : Rd w B A2 (u32s (trimL ys)) := by rw [u32s_trim]; exact hr2.take _
  obtain ⟨ps, hps⟩ : ∃ ps, ps = trimL xs := ⟨_, rfl⟩
  obtain ⟨qs, hqs⟩ : ∃ qs, qs = trimL ys := ⟨_, rfl⟩
  rw [← hps] at hn1 hrt hl1 hmm
  rw [← hqs] at hn2 hrt2 hl2 hmm
  have Hps := Lib.hid hps
  have Hqs := Lib.hid hqs
  have hdp := hn1.1
  have hdq := hn2.1
  have Hm : Hid (val 4294967296 ps = m) := hn1.2.2
  have Hn : Hid (val 4294967296 qs = n) := hn2.2.2
  clear hps hqs hmv hnv
  by_cases hp0 : ps = []
  · have hm0 : m = 0 := (hn1.nil_iff (by omega)).1 hp0
    have t1 : ((ps.length : Int) == 0) = true := by rw [hp0]; rfl
    have Hm0 := Lib.hid hm0
    clear hm0 hp0 hn1 hn2
    go_enter Try.func10, Try.ntmps10
    go_wp2_with (first
      | (go_at_call 27; (with_reducible refine (trim_any A c xs _ B hr hc hm).mono ?_); rintro e w' ⟨rfl, rfl⟩; rw [← Hps.out])
      | (go_at_call 27; (with_reducible refine (trim_any A2 c2 ys _ B hr2 hc2 hm2).mono ?_); rintro e w' ⟨rfl, rfl⟩; rw [← Hqs.out]))
    go_ret
    exact ⟨[], none, 0, rfl, by rw [Hm0.out, Nat.zero_mul]; exact Num.zero_ _, Res.none_, Below.refl _ _⟩
  have hpl : 0 < ps.length := by
    rcases Nat.eq_zero_or_pos ps.length with h | h
    · exact absurd (List.eq_nil_of_length_eq_zero h) hp0
    · exact h
  have t1 : ((ps.length : Int) == 0) = false := by simp; omega
  by_cases hq0 : qs = []
  · have hm0 : n = 0 := (hn2.nil_iff (by omega)).1 hq0
    have t2 : ((qs.length : Int) == 0) = true := by rw [hq0]; rfl
    have Hm0 := Lib.hid hm0
    clear hm0 hq0 hn1 hn2 hp0
    go_enter Try.func10, Try.ntmps10
    go_wp2_with (first
      | (go_at_call 27; (with_reducible refine (trim_any A c xs _ B hr hc hm).mono ?_); rintro e w' ⟨rfl, rfl⟩; rw [← Hps.out])
      | (go_at_call 27; (with_reducible refine (trim_any A2 c2 ys _ B hr2 hc2 hm2).mono ?_); rintro e w' ⟨rfl, rfl⟩; rw [← Hqs.out]))
    go_ret
    exact ⟨[], none, 0, rfl, by rw [Hm0.out, Nat.mul_zero]; exact Num.zero_ _, Res.none_, Below.refl _ _⟩
  have hql : 0 < qs.length := by
    rcases Nat.eq_zero_or_pos qs.length with h | h
    · exact absurd (List.eq_nil_of_length_eq_zero h) hq0
    · exact h
  have t2 : ((qs.length : Int) == 0) = false := by simp; omega
  have hpc : ps.length ≤ c := by omega
  have hqc : qs.length ≤ c2 := by omega
  clear hn1 hn2 hp0 hq0
  go_enter Try.func10, Try.ntmps10
  go_upto_if 23 with (first
    | (go_at_call 27; (with_reducible refine (trim_any A c xs _ B hr hc hm).mono ?_); rintro e w' ⟨rfl, rfl⟩; rw [← Hps.out])
    | (go_at_call 27; (with_reducible refine (trim_any A2 c2 ys _ B hr2 hc2 hm2).mono ?_); rintro e w' ⟨rfl, rfl⟩; rw [← Hqs.out]))
  go_cut [0, 1] (fun s0 s1 wc => ∃ (D D2 : Option Addr) (d d2 : Nat) (us vs : List Nat), s0 = .slice D us.length d ∧ s1 = .slice D2 vs.length d2 ∧ vs.length ≤ us.length ∧ 0 < vs.length ∧ us.length + vs.length ≤ 1073741820 ∧ Dig 4294967296 us ∧ Dig 4294967296 vs ∧ Hid (val 4294967296 us * val 4294967296 vs = m * n) ∧ Rd w B D (u32s us) ∧ Rd w B D2 (u32s vs) ∧ us.length ≤ d ∧ vs.length ≤ d2 ∧ wc = w)
  case first =>
    by_cases hlt : ps.length < qs.length
    · go_wp2
      go_meet
      exact ⟨A2, A, c2, c, qs, ps, rfl, rfl, by omega, hpl, by omega, hdq, hdp, Lib.hid (by rw [Hm.out, Hn.out, Nat.mul_comm]), hrt2, hrt, hqc, hpc, rfl⟩
    · go_wp2
      go_meet
      exact ⟨A, A2, c, c2, ps, qs, rfl, rfl, by omega, hql, by omega, hdp, hdq, Lib.hid (by rw [Hm.out, Hn.out]), hrt, hrt2, hpc, hqc, rfl⟩
  case rest =>
    clear hr hr2 hd hd2 hc hc2 hm hm2 hl1 hl2 hrt hrt2 Hps Hqs hdp hdq Hm Hn hpc hqc t1 t2 hpl hql hmm
    obtain ⟨D, D2, d, d2, us, vs, rfl, rfl, hle, hv0, hub, hdu, hdv, Hval, hru, hrv, hud, hvd, rfl⟩ := hcut
    by_cases h2 : us.length ≤ 2
    · have t1 : decide ((us.length : Int) ≤ 2) = true := by simp; omega
      have hx := val_lt _ us hdu
      have hy := val_lt _ vs hdv
      have hp2 : (4294967296 : Nat) ^ us.length ≤ 4294967296 ^ 2 := Nat.pow_le_pow_right (by omega) h2
      have hp3 : (4294967296 : Nat) ^ vs.length ≤ 4294967296 ^ 2 := Nat.pow_le_pow_right (by omega) (by omega)
      rw [show (4294967296 : Nat) ^ 2 = 18446744073709551616 from rfl] at hp2 hp3
      obtain ⟨x, hxe⟩ : ∃ x, x = val 4294967296 us := ⟨_, rfl⟩
      obtain ⟨y, hye⟩ : ∃ y, y = val 4294967296 vs := ⟨_, rfl⟩
      have hxb : x < 18446744073709551616 := by rw [hxe]; exact Nat.lt_of_lt_of_le hx hp2
      have hyb : y < 18446744073709551616 := by rw [hye]; exact Nat.lt_of_lt_of_le hy hp3
      have Hxy := Hval.out
      rw [← hxe, ← hye] at Hxy
      have hwx := fun W hW => word_any D d us W B (hru.dr (w' := W) hW) hdu h2
      have hwy := fun W hW => word_any D2 d2 vs W B (hrv.dr (w' := W) hW) hdv (by omega)
      rw [← hxe] at hwx
      rw [← hye] at hwy
      have Hwx := Lib.hid hwx
      have Hwy := Lib.hid hwy
      have hmul := fun W => mul64_any x y W hxb hyb
      obtain ⟨hi, hhi⟩ : ∃ hi, hi = x * y / 18446744073709551616 := ⟨_, rfl⟩
      obtain ⟨lo, hlo⟩ : ∃ lo, lo = x * y % 18446744073709551616 := ⟨_, rfl⟩
      rw [← hhi, ← hlo] at hmul
      have hv : val 18446744073709551616 [lo, hi] = m * n := by
        rw [← Hxy]; simp only [val]; rw [hhi, hlo]; omega
      have hib : hi < 18446744073709551616 := by
        rw [hhi, Nat.div_lt_iff_lt_mul (by omega)]
        have : x * y ≤ 18446744073709551615 * 18446744073709551615 := Nat.mul_le_mul (by omega) (by omega)
        omega
      have hlb : lo < 18446744073709551616 := by rw [hlo]; exact Nat.mod_lt _ (by omega)
      have Hv := Lib.hid hv
      have Hmul := Lib.hid hmul
      clear hhi hlo hv hmul hwx hwy hxe hye hx hy hp2 hp3 Hxy
      go_wp2_with (first
        | (go_at_call 31; (with_reducible refine (Hwx.out _ (by first | exact Dr.refl _ | assumption)).mono ?_); rintro e wx ⟨rfl, hdx⟩)
        | (go_at_call 31; (with_reducible refine (Hwy.out _ (by first | exact Dr.refl _ | assumption)).mono ?_); rintro e wy ⟨rfl, hdy⟩)
        | (go_at_call 30; (with_reducible refine (Hmul.out _).mono ?_); rintro e w' ⟨rfl, rfl⟩))
      have hwb : Below wc.heap.size wc wy := (hdx.below _).trans (hdy.below _)
      have hblk : Blk (wy.alloc (.cells #[.int .u64 (lo : Int), .int .u64 (hi : Int)] 44)) wy.heap.size 44 (u64s [lo, hi]) := Blk.new_ rfl
      refine (narrow_any (some ⟨wy.heap.size, 0, none⟩) 2 [lo, hi] _ (wy.heap.size + 1) (Rd.of_blk hblk (Nat.lt_succ_self _) 0 (fun k v hv => by rw [Nat.zero_add]; exact hv)) (by rw [szA]; exact Nat.le_refl _) (Dig.cons_ hlb (Dig.cons_ hib (Dig.nil_ _))) (by simp) (by simp)).mono ?_
      rintro e w3 ⟨zs, A', c', rfl, hz, hres, hb3⟩
      rw [szA] at hres hb3
      have hwz := hwb.size
      go_wp2_with fail
      go_ret
      exact ⟨zs, A', c', rfl, num_eq hz Hv.out, hres.mono (by omega), (hwb.alloc hwz _).trans (hb3.mono (by omega))⟩
    · have t1 : decide ((us.length : Int) ≤ 2) = false := by simp; omega
      by_cases h1 : vs.length = 1
      · obtain ⟨v, rfl⟩ := len_one h1
        have hvv : v < 4294967296 := hdv.head_
        have Hval2 : Hid (val 4294967296 us * v = m * n) := by
          have := Hval.out
          simp only [val, Nat.mul_zero, Nat.add_zero] at this
          exact this
        obtain ⟨b, off, rfl, hb, hx⟩ := hrv.at32 (k := 0) (by simp)
        have hx0 : wc.cell? ⟨b, off, none⟩ = some (.int .u32 (v : Int)) := hx
        clear hx h1
        go_wp2_with fail
        refine (shortMul_any D d us v _ B hru hB hdu hvv (by omega)).mono ?_
        rintro e w3 ⟨zs, A', c', rfl, hz, hres, hb3⟩
        go_wp2_with fail
        go_ret
        exact ⟨zs, A', c', rfl, num_eq hz Hval2.out, hres, hb3⟩
      · have t2 : ((vs.length : Int) == 1) = false := by simp; omega
        have hw1 := wide_any D d us wc B hru hB hdu hud (by omega)
        have Hw1 := Lib.hid hw1
        clear hw1
        go_wp2_with fail
        refine Hw1.out.mono ?_
        rintro e w1 ⟨ks, A1, c1, rfl, hal, had, hav, hares, hb1⟩
        have Hal := Lib.hid hal
        have Hav := Lib.hid hav
        clear hal hav
        go_wp2_with fail
        refine (wide_any D2 d2 vs w1 B (hrv.below (hb1.mono hB)) (Nat.le_trans hB hb1.size) hdv hvd (by omega)).mono ?_
        rintro e w2 ⟨bs, A3, c3, rfl, hbl, hbd, hbv, hbres, hb2⟩
        have Hbl := Lib.hid hbl
        have Hbv := Lib.hid hbv
        clear hbl hbv
        have hra : Rd w2 w2.heap.size A1 (u64s ks) := (hares.below hb2 (Nat.le_refl _)).rd
        have hca := hares.1
        have hcb := hbres.1
        rw [u64s_length] at hca hcb
        go_wp2_with fail
        refine (product_any A1 A3 c1 c3 ks bs w2 w2.heap.size hra hbres.rd (Nat.le_refl _) had hbd hca hcb (by have := Hal.out; have := Hbl.out; omega)).mono ?_
        rintro e w3 ⟨ps2, g, rfl, hpl, hpd, hpv, hg, hblk, hb3⟩
        have Hpl := Lib.hid hpl
        have Hpv := Lib.hid hpv
        clear hpl hpv
        go_wp2_with fail
        refine (narrow_any (some ⟨g, 0, none⟩) ps2.length ps2 w3 w3.heap.size (Rd.of_blk hblk hblk.lt 0 (fun k v hv => by rw [Nat.zero_add]; exact hv)) (Nat.le_refl _) hpd (Nat.le_refl _) (by have := Hpl.out; have := Hal.out; have := Hbl.out; omega)).mono ?_
        rintro e w4 ⟨zs, A', c', rfl, hz, hres, hb4⟩
        have hs1 := hb1.size
        have hs2 := hb2.size
        have hs3 := hb3.size
        go_wp2_with fail
        go_ret
        exact ⟨zs, A', c', rfl, num_eq hz (by rw [Hpv.out, Hav.out, Hbv.out, Hval.out]), hres.mono (by omega), hb1.trans ((hb2.mono hs1).trans ((hb3.mono (by omega)).trans (hb4.mono (by omega))))⟩
end Go.Proofs.Ytogkfpbapjjgfaa
