/- The contract of nat.Mul. Conditions: at most 2^30 limbs together. Plain numbers and blocks for shifts: a carry and a limb, the value behind limbs that are dropped. No conditions. The contract of shiftWords. Conditions: words; a shift below 64. The contract of unshiftWords. Conditions: words; a shift below 64. -/
import Derived.Test.YtadpelhmjmamnaaGreatDoorPkCf23
import Derived.Test.YtadpelhmjmamnaaGreatDoorPkCf19
import Derived.Test.YtadpelhmjmamnaaGreatDoorPkCf20
import Derived.Test.YtadpelhmjmamnaaGreatDoorPkCf18
namespace Go.Proofs.YtadpelhmjmamnaaGreatDoor
section
open Go.RowKit

theorem num_eq {b m n : Nat} {zs : List Nat} (h : Num b zs m) (e : m = n) : Num b zs n := e ▸ h

set_option maxHeartbeats 1600000 in
theorem mul_any (A A2 : Option Addr) (c c2 : Nat) (xs ys : List Nat) (w : World) (B : Nat) (hr : Rd w B A (u32s xs)) (hr2 : Rd w B A2 (u32s ys)) (hB : B ≤ w.heap.size) (hd : Dig 4294967296 xs) (hd2 : Dig 4294967296 ys) (hc : xs.length ≤ c) (hc2 : ys.length ≤ c2) (hm : xs.length ≤ 281474976710656) (hm2 : ys.length ≤ 281474976710656) (hmm : (trimL xs).length + (trimL ys).length ≤ 1073741820) :
    Calls Tryz.prog 79 #[.slice A xs.length c, .slice A2 ys.length c2] w fun e w' => ∃ zs A' c', e = .returned (.slice A' zs.length c') ∧ Num 4294967296 zs (val 4294967296 xs * val 4294967296 ys) ∧ Res w' w.heap.size 27 A' c' (u32s zs) ∧ Below w.heap.size w w' := by
  have hl1 := trimL_length_le xs
  have hl2 := trimL_length_le ys
  obtain ⟨m, hmv⟩ : ∃ m, m = val 4294967296 xs := ⟨_, rfl⟩
  obtain ⟨n, hnv⟩ : ∃ n, n = val 4294967296 ys := ⟨_, rfl⟩
  have hn1 := Num.of_trim hd
  have hn2 := Num.of_trim hd2
  rw [← hmv] at hn1
  rw [← hnv] at hn2
  rw [← hmv, ← hnv]
  have hrt : Rd w B A (u32s (trimL xs)) := by rw [u32s_trim]; exact hr.take _
  have hrt2 : Rd w B A2 (u32s (trimL ys)) := by rw [u32s_trim]; exact hr2.take _
  obtain ⟨ps, hps⟩ : ∃ ps, ps = trimL xs := ⟨_, rfl⟩
  obtain ⟨qs, hqs⟩ : ∃ qs, qs = trimL ys := ⟨_, rfl⟩
  rw [← hps] at hn1 hrt hl1 hmm
  rw [← hqs] at hn2 hrt2 hl2 hmm
  have Hps := Lib.hid hps
  have Hqs := Lib.hid hqs
  have hdp := hn1.1
  have hdq := hn2.1
  have Hm : Hid (val 4294967296 ps = m) := hn1.2.2
  have Hn : Hid (val 4294967296 qs = n) := hn2.2.2
  clear hps hqs hmv hnv
  by_cases hp0 : ps = []
  · have hm0 : m = 0 := (hn1.nil_iff (by omega)).1 hp0
    have t1 : ((ps.length : Int) == 0) = true := by rw [hp0]; rfl
    have Hm0 := Lib.hid hm0
    clear hm0 hp0 hn1 hn2
    go_enter Tryz.func79, Tryz.ntmps79
    go_wp2_with (first
      | (go_at_call 103; (with_reducible refine (trim_any A c xs _ B hr hc hm).mono ?_); rintro e w' ⟨rfl, rfl⟩; rw [← Hps.out])
      | (go_at_call 103; (with_reducible refine (trim_any A2 c2 ys _ B hr2 hc2 hm2).mono ?_); rintro e w' ⟨rfl, rfl⟩; rw [← Hqs.out]))
    go_ret
    exact ⟨[], none, 0, rfl, by rw [Hm0.out, Nat.zero_mul]; exact Num.zero_ _, Res.none_, Below.refl _ _⟩
  have hpl : 0 < ps.length := by
    rcases Nat.eq_zero_or_pos ps.length with h | h
    · exact absurd (List.eq_nil_of_length_eq_zero h) hp0
    · exact h
  have t1 : ((ps.length : Int) == 0) = false := by simp; omega
  by_cases hq0 : qs = []
  · have hm0 : n = 0 := (hn2.nil_iff (by omega)).1 hq0
    have t2 : ((qs.length : Int) == 0) = true := by rw [hq0]; rfl
    have Hm0 := Lib.hid hm0
    clear hm0 hq0 hn1 hn2 hp0
    go_enter Tryz.func79, Tryz.ntmps79
    go_wp2_with (first
      | (go_at_call 103; (with_reducible refine (trim_any A c xs _ B hr hc hm).mono ?_); rintro e w' ⟨rfl, rfl⟩; rw [← Hps.out])
      | (go_at_call 103; (with_reducible refine (trim_any A2 c2 ys _ B hr2 hc2 hm2).mono ?_); rintro e w' ⟨rfl, rfl⟩; rw [← Hqs.out]))
    go_ret
    exact ⟨[], none, 0, rfl, by rw [Hm0.out, Nat.mul_zero]; exact Num.zero_ _, Res.none_, Below.refl _ _⟩
  have hql : 0 < qs.length := by
    rcases Nat.eq_zero_or_pos qs.length with h | h
    · exact absurd (List.eq_nil_of_length_eq_zero h) hq0
    · exact h
  have t2 : ((qs.length : Int) == 0) = false := by simp; omega
  have hpc : ps.length ≤ c := by omega
  have hqc : qs.length ≤ c2 := by omega
  clear hn1 hn2 hp0 hq0
  go_enter Tryz.func79, Tryz.ntmps79
  go_upto_if 23 with (first
    | (go_at_call 103; (with_reducible refine (trim_any A c xs _ B hr hc hm).mono ?_); rintro e w' ⟨rfl, rfl⟩; rw [← Hps.out])
    | (go_at_call 103; (with_reducible refine (trim_any A2 c2 ys _ B hr2 hc2 hm2).mono ?_); rintro e w' ⟨rfl, rfl⟩; rw [← Hqs.out]))
  go_cut [0, 1] (fun s0 s1 wc => ∃ (D D2 : Option Addr) (d d2 : Nat) (us vs : List Nat), s0 = .slice D us.length d ∧ s1 = .slice D2 vs.length d2 ∧ vs.length ≤ us.length ∧ 0 < vs.length ∧ us.length + vs.length ≤ 1073741820 ∧ Dig 4294967296 us ∧ Dig 4294967296 vs ∧ Hid (val 4294967296 us * val 4294967296 vs = m * n) ∧ Rd w B D (u32s us) ∧ Rd w B D2 (u32s vs) ∧ us.length ≤ d ∧ vs.length ≤ d2 ∧ wc = w)
  case first =>
    by_cases hlt : ps.length < qs.length
    · go_wp2
      go_meet
      exact ⟨A2, A, c2, c, qs, ps, rfl, rfl, by omega, hpl, by omega, hdq, hdp, Lib.hid (by rw [Hm.out, Hn.out, Nat.mul_comm]), hrt2, hrt, hqc, hpc, rfl⟩
    · go_wp2
      go_meet
      exact ⟨A, A2, c, c2, ps, qs, rfl, rfl, by omega, hql, by omega, hdp, hdq, Lib.hid (by rw [Hm.out, Hn.out]), hrt, hrt2, hpc, hqc, rfl⟩
  case rest =>
    clear hr hr2 hd hd2 hc hc2 hm hm2 hl1 hl2 hrt hrt2 Hps Hqs hdp hdq Hm Hn hpc hqc t1 t2 hpl hql hmm
    obtain ⟨D, D2, d, d2, us, vs, rfl, rfl, hle, hv0, hub, hdu, hdv, Hval, hru, hrv, hud, hvd, rfl⟩ := hcut
    by_cases h2 : us.length ≤ 2
    · have t1 : decide ((us.length : Int) ≤ 2) = true := by simp; omega
      have hx := val_lt _ us hdu
      have hy := val_lt _ vs hdv
      have hp2 : (4294967296 : Nat) ^ us.length ≤ 4294967296 ^ 2 := Nat.pow_le_pow_right (by omega) h2
      have hp3 : (4294967296 : Nat) ^ vs.length ≤ 4294967296 ^ 2 := Nat.pow_le_pow_right (by omega) (by omega)
      rw [show (4294967296 : Nat) ^ 2 = 18446744073709551616 from rfl] at hp2 hp3
      obtain ⟨x, hxe⟩ : ∃ x, x = val 4294967296 us := ⟨_, rfl⟩
      obtain ⟨y, hye⟩ : ∃ y, y = val 4294967296 vs := ⟨_, rfl⟩
      have hxb : x < 18446744073709551616 := by rw [hxe]; exact Nat.lt_of_lt_of_le hx hp2
      have hyb : y < 18446744073709551616 := by rw [hye]; exact Nat.lt_of_lt_of_le hy hp3
      have Hxy := Hval.out
      rw [← hxe, ← hye] at Hxy
      have hwx := fun W hW => word_any D d us W B (hru.dr (w' := W) hW) hdu h2
      have hwy := fun W hW => word_any D2 d2 vs W B (hrv.dr (w' := W) hW) hdv (by omega)
      rw [← hxe] at hwx
      rw [← hye] at hwy
      have Hwx := Lib.hid hwx
      have Hwy := Lib.hid hwy
      have hmul := fun W => mul64_any x y W hxb hyb
      obtain ⟨hi, hhi⟩ : ∃ hi, hi = x * y / 18446744073709551616 := ⟨_, rfl⟩
      obtain ⟨lo, hlo⟩ : ∃ lo, lo = x * y % 18446744073709551616 := ⟨_, rfl⟩
      rw [← hhi, ← hlo] at hmul
      have hv : val 18446744073709551616 [lo, hi] = m * n := by
        rw [← Hxy]; simp only [val]; rw [hhi, hlo]; omega
      have hib : hi < 18446744073709551616 := by
        rw [hhi, Nat.div_lt_iff_lt_mul (by omega)]
        have : x * y ≤ 18446744073709551615 * 18446744073709551615 := Nat.mul_le_mul (by omega) (by omega)
        omega
      have hlb : lo < 18446744073709551616 := by rw [hlo]; exact Nat.mod_lt _ (by omega)
      have Hv := Lib.hid hv
      have Hmul := Lib.hid hmul
      clear hhi hlo hv hmul hwx hwy hxe hye hx hy hp2 hp3 Hxy
      go_wp2_with (first
        | (go_at_call 115; (with_reducible refine (Hwx.out _ (by first | exact Dr.refl _ | assumption)).mono ?_); rintro e wx ⟨rfl, hdx⟩)
        | (go_at_call 115; (with_reducible refine (Hwy.out _ (by first | exact Dr.refl _ | assumption)).mono ?_); rintro e wy ⟨rfl, hdy⟩)
        | (go_at_call 114; (with_reducible refine (Hmul.out _).mono ?_); rintro e w' ⟨rfl, rfl⟩))
      have hwb : Below wc.heap.size wc wy := (hdx.below _).trans (hdy.below _)
      have hblk : Blk (wy.alloc (.cells #[.int .u64 (lo : Int), .int .u64 (hi : Int)] 84)) wy.heap.size 84 (u64s [lo, hi]) := Blk.new_ rfl
      refine (narrow_any (some ⟨wy.heap.size, 0, none⟩) 2 [lo, hi] _ (wy.heap.size + 1) (Rd.of_blk hblk (Nat.lt_succ_self _) 0 (fun k v hv => by rw [Nat.zero_add]; exact hv)) (by rw [szA]; exact Nat.le_refl _) (Dig.cons_ hlb (Dig.cons_ hib (Dig.nil_ _))) (by simp) (by simp)).mono ?_
      rintro e w3 ⟨zs, A', c', rfl, hz, hres, hb3⟩
      rw [szA] at hres hb3
      have hwz := hwb.size
      go_wp2_with fail
      go_ret
      exact ⟨zs, A', c', rfl, num_eq hz Hv.out, hres.mono (by omega), (hwb.alloc hwz _).trans (hb3.mono (by omega))⟩
    · have t1 : decide ((us.length : Int) ≤ 2) = false := by simp; omega
      by_cases h1 : vs.length = 1
      · obtain ⟨v, rfl⟩ := len_one h1
        have hvv : v < 4294967296 := hdv.head_
        have Hval2 : Hid (val 4294967296 us * v = m * n) := by
          have := Hval.out
          simp only [val, Nat.mul_zero, Nat.add_zero] at this
          exact this
        obtain ⟨b, off, rfl, hb, hx⟩ := hrv.at32 (k := 0) (by simp)
        have hx0 : wc.cell? ⟨b, off, none⟩ = some (.int .u32 (v : Int)) := hx
        clear hx h1
        go_wp2_with fail
        refine (shortMul_any D d us v _ B hru hB hdu hvv (by omega)).mono ?_
        rintro e w3 ⟨zs, A', c', rfl, hz, hres, hb3⟩
        go_wp2_with fail
        go_ret
        exact ⟨zs, A', c', rfl, num_eq hz Hval2.out, hres, hb3⟩
      · have t2 : ((vs.length : Int) == 1) = false := by simp; omega
        have hw1 := wide_any D d us wc B hru hB hdu hud (by omega)
        have Hw1 := Lib.hid hw1
        clear hw1
        go_wp2_with fail
        refine Hw1.out.mono ?_
        rintro e w1 ⟨ks, A1, c1, rfl, hal, had, hav, hares, hb1⟩
        have Hal := Lib.hid hal
        have Hav := Lib.hid hav
        clear hal hav
        go_wp2_with fail
        refine (wide_any D2 d2 vs w1 B (hrv.below (hb1.mono hB)) (Nat.le_trans hB hb1.size) hdv hvd (by omega)).mono ?_
        rintro e w2 ⟨bs, A3, c3, rfl, hbl, hbd, hbv, hbres, hb2⟩
        have Hbl := Lib.hid hbl
        have Hbv := Lib.hid hbv
        clear hbl hbv
        have hra : Rd w2 w2.heap.size A1 (u64s ks) := (hares.below hb2 (Nat.le_refl _)).rd
        have hca := hares.1
        have hcb := hbres.1
        rw [u64s_length] at hca hcb
        go_wp2_with fail
        refine (product_any A1 A3 c1 c3 ks bs w2 w2.heap.size hra hbres.rd (Nat.le_refl _) had hbd hca hcb (by have := Hal.out; have := Hbl.out; omega)).mono ?_
        rintro e w3 ⟨ps2, g, rfl, hpl, hpd, hpv, hg, hblk, hb3⟩
        have Hpl := Lib.hid hpl
        have Hpv := Lib.hid hpv
        clear hpl hpv
        go_wp2_with fail
        refine (narrow_any (some ⟨g, 0, none⟩) ps2.length ps2 w3 w3.heap.size (Rd.of_blk hblk hblk.lt 0 (fun k v hv => by rw [Nat.zero_add]; exact hv)) (Nat.le_refl _) hpd (Nat.le_refl _) (by have := Hpl.out; have := Hal.out; have := Hbl.out; omega)).mono ?_
        rintro e w4 ⟨zs, A', c', rfl, hz, hres, hb4⟩
        have hs1 := hb1.size
        have hs2 := hb2.size
        have hs3 := hb3.size
        go_wp2_with fail
        go_ret
        exact ⟨zs, A', c', rfl, num_eq hz (by rw [Hpv.out, Hav.out, Hbv.out, Hval.out]), hres.mono (by omega), hb1.trans ((hb2.mono hs1).trans ((hb3.mono (by omega)).trans (hb4.mono (by omega))))⟩
end
section
open Go.RowKit

theorem val_drop {b : Nat} (hb : 0 < b) (xs : List Nat) (d : Nat) (hd : Dig b xs) : val b (xs.drop d) = val b xs / b ^ d := by
  induction d generalizing xs with
  | zero => simp
  | succ d ih =>
    cases xs with
    | nil => simp [val]
    | cons x xs =>
      rw [List.drop_succ_cons, ih xs hd.tail_]
      simp only [val]
      rw [Nat.pow_succ, Nat.mul_comm (b ^ d) b, ← Nat.div_div_eq_div_mul, Nat.add_mul_div_left _ _ hb, Nat.div_eq_of_lt hd.head_, Nat.zero_add]
end
section
open Go.RowKit

theorem shl_split (x n m : Nat) (hnm : n + m = 64) : x * 2 ^ n = x * 2 ^ n % 18446744073709551616 + 18446744073709551616 * (x / 2 ^ m) ∧ x * 2 ^ n % 18446744073709551616 = x % 2 ^ m * 2 ^ n := by
  have hW : (18446744073709551616 : Nat) = 2 ^ m * 2 ^ n := by rw [← Nat.pow_add, Nat.add_comm, hnm]
  have h1 : x * 2 ^ n / 18446744073709551616 = x / 2 ^ m := by rw [hW, Nat.mul_div_mul_right _ _ (Nat.two_pow_pos n)]
  have h2 := Nat.div_add_mod (x * 2 ^ n) 18446744073709551616
  rw [h1] at h2
  exact ⟨by omega, by rw [hW, Nat.mul_mod_mul_right]⟩
theorem wrap_shl (x n : Nat) : IntKind.u64.wrap ((x : Int) * 2 ^ n) = ((x * 2 ^ n % 18446744073709551616 : Nat) : Int) := by
  rw [IntKind.wrap_u64, show ((x : Int) * 2 ^ n) = ((x * 2 ^ n : Nat) : Int) from by simp]
  omega
theorem shl_or (y x n m : Nat) (hnm : n + m = 64) (hy : y < 2 ^ n) (hyW : y < 18446744073709551616) : bits BinOp.or IntKind.u64 (y : Int) (IntKind.u64.wrap ((x : Int) * 2 ^ n)) = ((y + x * 2 ^ n % 18446744073709551616 : Nat) : Int) := by
  have h2 := (shl_split x n m hnm).2
  rw [wrap_shl, u64_or_nat y _ hyW (by omega), Nat.or_comm, h2, or_shift y (x % 2 ^ m) n hy, Nat.mul_comm (2 ^ n)]
theorem shr_lt {x n m : Nat} (hnm : n + m = 64) (hx : x < 18446744073709551616) : x / 2 ^ m < 2 ^ n := by
  refine (Nat.div_lt_iff_lt_mul (Nat.two_pow_pos m)).2 ?_
  rw [← Nat.pow_add, hnm]
  exact hx
theorem lo_lt {y x n m : Nat} (hnm : n + m = 64) (hy : y < 2 ^ n) : y + x * 2 ^ n % 18446744073709551616 < 18446744073709551616 := by
  have h2 := (shl_split x n m hnm).2
  have hW : (18446744073709551616 : Nat) = 2 ^ m * 2 ^ n := by rw [← Nat.pow_add, Nat.add_comm, hnm]
  have h3 : (x % 2 ^ m + 1) * 2 ^ n ≤ 2 ^ m * 2 ^ n := Nat.mul_le_mul_right _ (Nat.mod_lt _ (Nat.two_pow_pos m))
  rw [Nat.add_mul, ← h2, ← hW] at h3
  omega

theorem shr_nat2 (x t : Nat) : (x : Int) / 2 ^ t = ((x / 2 ^ t : Nat) : Int) := by rw [Int.natCast_ediv, Int.natCast_pow]; rfl
/-- Between two words of shiftWords. -/
structure Up (us : List Nat) (n k : Nat) (zs : List Nat) : Prop where
  len : zs.length = us.length + 1
  dig : Dig 18446744073709551616 zs
  sum : val 18446744073709551616 zs = val 18446744073709551616 (us.take k) * 2 ^ n
  low : ∀ h : k < zs.length, zs[k] < 2 ^ n
  zero : ∀ j (h : j < zs.length), k < j → zs[j] = 0
theorem Up.start (us : List Nat) (n : Nat) : Up us n 0 (List.replicate (us.length + 1) 0) := by
  refine ⟨by simp, Dig.zeros_ (by omega) _, by rw [val_zeros]; simp [val], fun h => ?_, fun j h _ => by simp⟩
  rw [List.getElem_replicate]
  exact Nat.two_pow_pos n
theorem Up.step {us zs : List Nat} {n m k : Nat} (h : Up us n k zs) (hnm : n + m = 64) (hk : k < us.length) (hz : k < zs.length) (hx : us[k] < 18446744073709551616) :
    Up us n (k + 1) ((zs.set k (zs[k] + us[k] * 2 ^ n % 18446744073709551616)).set (k + 1) (us[k] / 2 ^ m)) := by
  have h1 := h.low hz
  have h2 := lo_lt (x := us[k]) hnm h1
  have h3 := shr_lt hnm hx
  have hl := h.len
  have hk1 : k + 1 < zs.length := by omega
  have hl2 : (zs.set k (zs[k] + us[k] * 2 ^ n % 18446744073709551616)).length = zs.length := List.length_set
  have e1 := val_set 18446744073709551616 zs k (zs[k] + us[k] * 2 ^ n % 18446744073709551616) hz
  have e2 := val_set 18446744073709551616 (zs.set k (zs[k] + us[k] * 2 ^ n % 18446744073709551616)) (k + 1) (us[k] / 2 ^ m) (by omega)
  rw [List.getElem_set_ne (by omega), h.zero (k + 1) hk1 (by omega), Nat.mul_zero, Nat.add_zero] at e2
  have e3 := (shl_split us[k] n m hnm).1
  refine ⟨by rw [List.length_set, List.length_set]; exact hl, (h.dig.set_ k _ h2).set_ (k + 1) _ (Nat.lt_of_le_of_lt (Nat.div_le_self _ _) hx), ?_, fun hh => ?_, fun j hj hkj => ?_⟩
  · rw [e2, val_take_succ _ _ _ hk, Nat.add_mul, ← h.sum]
    rw [Nat.mul_add] at e1
    have e4 : 18446744073709551616 ^ k * us[k] * 2 ^ n = 18446744073709551616 ^ k * (us[k] * 2 ^ n % 18446744073709551616) + 18446744073709551616 ^ (k + 1) * (us[k] / 2 ^ m) := by
      rw [Nat.mul_assoc]
      conv => lhs; rw [e3]
      rw [Nat.mul_add, Nat.pow_succ, Nat.mul_assoc]
    omega
  · rw [List.getElem_set_self]; exact h3
  · rw [List.length_set, List.length_set] at hj
    rw [List.getElem_set_ne (by omega), List.getElem_set_ne (by omega)]
    exact h.zero j hj (by omega)

set_option maxRecDepth 20000 in
set_option maxHeartbeats 1600000 in
theorem shiftWords_any (A : Option Addr) (c n : Nat) (us : List Nat) (w : World) (B : Nat) (hr : Rd w B A (u64s us)) (hB : B ≤ w.heap.size) (hd : Dig 18446744073709551616 us) (hm : us.length ≤ 35184372088000) (hn : n < 64) :
    Calls Tryz.prog 174 #[.slice A us.length c, .int .u64 (n : Int)] w fun e w' => Words w w' (us.length + 1) (val 18446744073709551616 us * 2 ^ n) e := by
  have hmk : ∀ W : World, (Instr.makeSlice 146 (.int .i64 ((us.length : Int) + 1)) (.int .i64 ((us.length : Int) + 1))).run Tryz.prog W = .ok (.slice (some ⟨W.heap.size, 0, none⟩) (us.length + 1) (us.length + 1)) (W.alloc (.cells (List.replicate (us.length + 1) (Value.int .u64 0)).toArray 84)) := fun W => by
    have := mk64 (us.length + 1) (by omega) W
    rwa [show ((us.length + 1 : Nat) : Int) = (us.length : Int) + 1 from by omega] at this
  obtain ⟨m, hmn⟩ : ∃ m, m = 64 - n := ⟨_, rfl⟩
  have hnm : n + m = 64 := by omega
  have hm64 : m ≤ 64 := by omega
  have e64 : (64 : Int) - (n : Int) = (m : Int) := by omega
  have e64w : IntKind.u64.wrap ((64 : Int) - (n : Int)) = (m : Int) := by rw [IntKind.wrap_u64]; omega
  have Hrep : Hid (∀ k : Nat, (List.replicate k (Value.int .u64 0)).toArray = (u64s (List.replicate k 0)).toArray) := fun k => by simp [u64s]
  clear hmn
  go_enter Tryz.func174, Tryz.ntmps174
  go_wp2_with fail
  go_loopw [6, 7, 14] (fun _ _ i wr => ∃ (k : Nat) (zs : List Nat), k ≤ us.length ∧ i = .int .i64 (k : Int) ∧ Hid (Up us n k zs) ∧ Blk wr w.heap.size 84 (u64s zs) ∧ Below w.heap.size w wr) (fun _ _ i _ => us.length - (intOf i).toNat)
  case atStart => exact ⟨0, List.replicate (us.length + 1) 0, by omega, rfl, Up.start us n, Blk.new_ (Hrep.out _), (Below.refl _ _).alloc (Nat.le_refl _) _⟩
  case round =>
    obtain ⟨k, zs, hk, rfl, hup, hblk, hbel⟩ := hrel
    have hzl := hup.out.len
    by_cases hlt : k < us.length
    · obtain ⟨b, off, rfl, hb, hx⟩ := hr.at64 hlt
      have hx := (hbel.cell (p := ⟨b, off + k, none⟩) (show b < _ by omega)).trans hx
      have hxd := hd.at_ k hlt
      have hz : k < zs.length := by omega
      have hlow := hup.out.low hz
      have hstep := Lib.hid (hup.out.step hnm hlt hz hxd)
      have hyd := hup.out.dig.at_ k hz
      have hor := shl_or zs[k] us[k] n m hnm hlow hyd
      have hlo := lo_lt (x := us[k]) hnm hlow
      have hsr := shr_nat2 us[k] m
      have c1 := hblk.cell k
      rw [u64s_at hz] at c1
      have f1 := hblk.frozen k
      have f2 := hblk.frozen (k + 1)
      have c2 := hblk.cell (k + 1)
      rw [u64s_at (by omega)] at c2
      obtain ⟨y, hy⟩ : ∃ y, y = zs[k] := ⟨_, rfl⟩
      obtain ⟨y2, hy2⟩ : ∃ y2, y2 = zs[k + 1] := ⟨_, rfl⟩
      obtain ⟨x, hxe⟩ : ∃ x, x = us[k] := ⟨_, rfl⟩
      rw [← hy, ← hxe] at hor hstep
      rw [← hy] at c1 hyd hlo
      rw [← hy2] at c2
      rw [← hxe] at hx hxd hsr hlo
      obtain ⟨s, hs⟩ := nameIt (y + x * 2 ^ n % 18446744073709551616)
      obtain ⟨t, ht⟩ := nameIt (x / 2 ^ m)
      rw [← hs] at hor hstep hlo
      rw [← ht] at hsr hstep
      have htx : t < 18446744073709551616 := by rw [ht]; exact Nat.lt_of_le_of_lt (Nat.div_le_self _ _) hxd
      have hset := (hblk.set_ k (.int .u64 (s : Int))).set_ (k + 1) (.int .u64 (t : Int))
      rw [u64s_set, u64s_set] at hset
      have Hset := Lib.hid hset
      have Hbel := Lib.hid ((hbel.setCell (p := ⟨w.heap.size, k, none⟩) (Nat.le_refl _) (.int .u64 (s : Int))).setCell (p := ⟨w.heap.size, k + 1, none⟩) (Nat.le_refl _) (.int .u64 (t : Int)))
      have hbne : b ≠ w.heap.size := by omega
      clear hset hy hy2 hxe hs ht hlow hup hbel hmk
      go_wp2_with (first | (simp only [hor]) | (simp only [e64w]) | (simp only [e64]) | (simp only [hsr]))
      go_roundw
      case rel => exact ⟨k + 1, _, by omega, by go_num, hstep, Hset.out, Hbel.out⟩
      case measure => simp [intOf]; omega
    · obtain rfl : k = us.length := by omega
      have hsum := hup.out.sum
      rw [List.take_length] at hsum
      have Hsum := Lib.hid hsum
      clear hsum hmk
      go_wp2_with fail
      go_ret
      exact ⟨zs, w.heap.size, by rw [hzl]; rfl, hzl, hup.out.dig, Hsum.out, Nat.le_refl _, hblk, hbel⟩
end
section
open Go.RowKit

/-- Between two words of unshiftWords. -/
structure Down (us : List Nat) (n m k : Nat) (zs : List Nat) : Prop where
  len : zs.length = us.length
  dig : Dig 18446744073709551616 zs
  sum : val 18446744073709551616 zs = val 18446744073709551616 (us.take k) / 2 ^ n
  low : ∀ j (h : j < zs.length), k = j + 1 → zs[j] < 2 ^ m
  zero : ∀ j (h : j < zs.length), k ≤ j → zs[j] = 0
theorem Down.start (us : List Nat) (n m : Nat) : Down us n m 0 (List.replicate us.length 0) :=
  ⟨by simp, Dig.zeros_ (by omega) _, by rw [val_zeros]; simp [val], fun j h e => by omega, fun j h _ => by simp⟩
theorem Down.first {us zs : List Nat} {n m : Nat} (h : Down us n m 0 zs) (hnm : n + m = 64) (hk : 0 < us.length) (hx : us[0] < 18446744073709551616) : Down us n m (0 + 1) (zs.set 0 (us[0] / 2 ^ n)) := by
  have hl := h.len
  have e1 := val_set 18446744073709551616 zs 0 (us[0] / 2 ^ n) (by omega)
  rw [h.zero 0 (by omega) (Nat.le_refl _), Nat.mul_zero, Nat.add_zero] at e1
  refine ⟨by rw [List.length_set]; exact hl, h.dig.set_ 0 _ (Nat.lt_of_le_of_lt (Nat.div_le_self _ _) hx), ?_, fun j hj e => ?_, fun j hj hkj => ?_⟩
  · rw [e1, h.sum, val_take_succ _ _ _ hk]
    simp [val]
  · obtain rfl : j = 0 := by omega
    rw [List.getElem_set_self]
    exact shr_lt (by omega) hx
  · rw [List.length_set] at hj
    rw [List.getElem_set_ne (by omega)]
    exact h.zero j hj (by omega)
theorem Down.step {us zs : List Nat} {n m k : Nat} (h : Down us n m (k + 1) zs) (hnm : n + m = 64) (hk : k + 1 < us.length) (hz : k < zs.length) (hx : us[k + 1] < 18446744073709551616) :
    Down us n m (k + 1 + 1) ((zs.set (k + 1) (us[k + 1] / 2 ^ n)).set k (zs[k] + us[k + 1] * 2 ^ m % 18446744073709551616)) := by
  have h1 := h.low k hz rfl
  have h2 := lo_lt (x := us[k + 1]) (n := m) (m := n) (by omega) h1
  have h3 := shr_lt (n := m) (m := n) (by omega) hx
  have hl := h.len
  have hk1 : k + 1 < zs.length := by omega
  have e1 := val_set 18446744073709551616 zs (k + 1) (us[k + 1] / 2 ^ n) hk1
  rw [h.zero (k + 1) hk1 (Nat.le_refl _), Nat.mul_zero, Nat.add_zero] at e1
  have e2 := val_set 18446744073709551616 (zs.set (k + 1) (us[k + 1] / 2 ^ n)) k (zs[k] + us[k + 1] * 2 ^ m % 18446744073709551616) (by rw [List.length_set]; exact hz)
  rw [List.getElem_set_ne (by omega), Nat.mul_add] at e2
  have e3 := (shl_split us[k + 1] m n (by omega)).1
  refine ⟨by rw [List.length_set, List.length_set]; exact hl, (h.dig.set_ (k + 1) _ (Nat.lt_of_le_of_lt (Nat.div_le_self _ _) hx)).set_ k _ h2, ?_, fun j hj e => ?_, fun j hj hkj => ?_⟩
  · have hW : (18446744073709551616 : Nat) = 2 ^ n * 2 ^ m := by rw [← Nat.pow_add, hnm]
    have e5 : val 18446744073709551616 (us.take (k + 1 + 1)) = val 18446744073709551616 (us.take (k + 1)) + 2 ^ n * (18446744073709551616 ^ k * (us[k + 1] * 2 ^ m)) := by
      rw [val_take_succ _ _ _ hk]
      congr 1
      rw [Nat.pow_succ]
      conv => lhs; rw [show (18446744073709551616 : Nat) ^ k * 18446744073709551616 = 18446744073709551616 ^ k * (2 ^ n * 2 ^ m) from by rw [← hW]]
      rw [Nat.mul_left_comm (2 ^ n), Nat.mul_assoc, Nat.mul_assoc, Nat.mul_comm (2 ^ m)]
    have e6 : 18446744073709551616 ^ k * (us[k + 1] * 2 ^ m) = 18446744073709551616 ^ k * (us[k + 1] * 2 ^ m % 18446744073709551616) + 18446744073709551616 ^ (k + 1) * (us[k + 1] / 2 ^ n) := by
      conv => lhs; rw [e3]
      rw [Nat.mul_add, Nat.pow_succ, Nat.mul_assoc]
    rw [e5, Nat.add_mul_div_left _ _ (Nat.two_pow_pos n), ← h.sum, e6]
    omega
  · obtain rfl : j = k + 1 := by omega
    rw [List.getElem_set_ne (by omega), List.getElem_set_self]
    exact h3
  · rw [List.length_set, List.length_set] at hj
    rw [List.getElem_set_ne (by omega), List.getElem_set_ne (by omega)]
    exact h.zero j hj (by omega)

theorem or_zero_u64 (x : Nat) (h : x < 18446744073709551616) : bits BinOp.or IntKind.u64 (0 : Int) (x : Int) = (x : Int) := by
  have := u64_or_nat 0 x (by omega) h
  rw [show ((0 : Nat) : Int) = 0 from rfl] at this
  rw [this, Nat.zero_or]

set_option maxRecDepth 20000 in
set_option maxHeartbeats 1600000 in
theorem unshiftWords_any (A : Option Addr) (c n : Nat) (us : List Nat) (w : World) (B : Nat) (hr : Rd w B A (u64s us)) (hB : B ≤ w.heap.size) (hd : Dig 18446744073709551616 us) (hm : us.length ≤ 35184372088800) (hn : n < 64) :
    Calls Tryz.prog 177 #[.slice A us.length c, .int .u64 (n : Int)] w fun e w' => Words w w' us.length (val 18446744073709551616 us / 2 ^ n) e := by
  have hmk := fun W => mk64 us.length (by omega) W
  obtain ⟨m, hmn⟩ : ∃ m, m = 64 - n := ⟨_, rfl⟩
  have hnm : n + m = 64 := by omega
  have hm64 : m ≤ 64 := by omega
  have e64 : (64 : Int) - (n : Int) = (m : Int) := by omega
  have e64w : IntKind.u64.wrap ((64 : Int) - (n : Int)) = (m : Int) := by rw [IntKind.wrap_u64]; omega
  have Hrep : Hid (∀ k : Nat, (List.replicate k (Value.int .u64 0)).toArray = (u64s (List.replicate k 0)).toArray) := fun k => by simp [u64s]
  clear hmn
  go_enter Tryz.func177, Tryz.ntmps177
  go_wp2_with fail
  go_loopw [6, 7, 13] (fun _ _ i wr => ∃ (k : Nat) (zs : List Nat), k ≤ us.length ∧ i = .int .i64 (k : Int) ∧ Hid (Down us n m k zs) ∧ Blk wr w.heap.size 84 (u64s zs) ∧ Below w.heap.size w wr) (fun _ _ i _ => us.length - (intOf i).toNat)
  case atStart => exact ⟨0, List.replicate us.length 0, by omega, rfl, Down.start us n m, Blk.new_ (Hrep.out _), (Below.refl _ _).alloc (Nat.le_refl _) _⟩
  case round =>
    obtain ⟨k, zs, hk, rfl, hup, hblk, hbel⟩ := hrel
    have hzl := hup.out.len
    by_cases hlt : k < us.length
    · obtain ⟨b, off, rfl, hb, hx⟩ := hr.at64 hlt
      have hx := (hbel.cell (p := ⟨b, off + k, none⟩) (show b < _ by omega)).trans hx
      have hxd := hd.at_ k hlt
      have hz : k < zs.length := by omega
      have c1 := hblk.cell k
      rw [u64s_at hz, hup.out.zero k hz (Nat.le_refl _)] at c1
      have f1 := hblk.frozen k
      have hbne : b ≠ w.heap.size := by omega
      have hsr := shr_nat2 us[k] n
      have htx : us[k] / 2 ^ n < 18446744073709551616 := Nat.lt_of_le_of_lt (Nat.div_le_self _ _) hxd
      have hor1 := or_zero_u64 _ htx
      have hset1 := hblk.set_ k (.int .u64 ((us[k] / 2 ^ n : Nat) : Int))
      have hbel1 := hbel.setCell (p := ⟨w.heap.size, k, none⟩) (Nat.le_refl _) (.int .u64 ((us[k] / 2 ^ n : Nat) : Int))
      rw [u64s_set] at hset1
      by_cases h0 : k = 0
      · subst h0
        have hstep := Lib.hid (hup.out.first hnm hlt hxd)
        obtain ⟨x, hxe⟩ : ∃ x, x = us[0] := ⟨_, rfl⟩
        rw [← hxe] at hx hxd hsr hor1 hset1 hbel1 hstep htx
        rw [Nat.add_zero] at hx
        obtain ⟨t, ht⟩ := nameIt (x / 2 ^ n)
        rw [← ht] at hsr hor1 hset1 hbel1 hstep htx
        have Hset := Lib.hid hset1
        have Hbel := Lib.hid hbel1
        clear hset1 hbel1 hxe ht hup hbel hmk
        go_wp2_with (first | (simp only [hsr]) | (simp only [hor1]))
        go_roundw
        case rel => exact ⟨0 + 1, _, by omega, by go_num, hstep, Hset.out, Hbel.out⟩
        case measure => simp [intOf]; omega
      · obtain ⟨j, rfl⟩ : ∃ j, k = j + 1 := ⟨k - 1, by omega⟩
        have hzj : j < zs.length := by omega
        have hlow := hup.out.low j hzj rfl
        have hstep := Lib.hid (hup.out.step hnm hlt hzj hxd)
        have hyd := hup.out.dig.at_ j hzj
        have hor := shl_or zs[j] us[j + 1] m n (by omega) hlow hyd
        have hlo := lo_lt (x := us[j + 1]) (n := m) (m := n) (by omega) hlow
        have c2 := hset1.cell j
        rw [u64s_at (by rw [List.length_set]; exact hzj), List.getElem_set_ne (by omega)] at c2
        have f2 := hset1.frozen j
        have f3 := hblk.frozen j
        have c3 := hblk.cell j
        rw [u64s_at hzj] at c3
        obtain ⟨y, hy⟩ : ∃ y, y = zs[j] := ⟨_, rfl⟩
        obtain ⟨x, hxe⟩ : ∃ x, x = us[j + 1] := ⟨_, rfl⟩
        rw [← hy, ← hxe] at hor hstep hlo
        rw [← hy] at c2 c3 hyd
        rw [← hxe] at hx hxd hsr hor1 hset1 hbel1 htx c2 f2
        obtain ⟨t, ht⟩ := nameIt (x / 2 ^ n)
        rw [← ht] at hsr hor1 hset1 hbel1 hstep htx c2 f2
        obtain ⟨s, hs⟩ := nameIt (y + x * 2 ^ m % 18446744073709551616)
        rw [← hs] at hor hstep hlo
        have hset2 := hset1.set_ j (.int .u64 (s : Int))
        rw [u64s_set] at hset2
        have Hset := Lib.hid hset2
        have Hbel := Lib.hid (hbel1.setCell (p := ⟨w.heap.size, j, none⟩) (Nat.le_refl _) (.int .u64 (s : Int)))
        have i0 : decide ((0 : Int) < (j : Int) + 1) = true := decide_eq_true (by omega)
        clear hset1 hset2 hbel1 hxe hy ht hs hlow hup hbel hmk
        go_wp2_with (first | (simp only [hsr]) | (simp only [hor1]) | (simp only [hor]) | (simp only [e64w]) | (simp only [e64]) | (simp only [i0]))
        go_roundw
        case rel => exact ⟨j + 1 + 1, _, by omega, by go_num, hstep, Hset.out, Hbel.out⟩
        case measure => simp [intOf]; omega
    · obtain rfl : k = us.length := by omega
      have hsum := hup.out.sum
      rw [List.take_length] at hsum
      have Hsum := Lib.hid hsum
      clear hsum hmk
      go_wp2_with fail
      go_ret
      exact ⟨zs, w.heap.size, by rw [hzl]; rfl, hzl, hup.out.dig, Hsum.out, Nat.le_refl _, hblk, hbel⟩
end
end Go.Proofs.YtadpelhmjmamnaaGreatDoor
