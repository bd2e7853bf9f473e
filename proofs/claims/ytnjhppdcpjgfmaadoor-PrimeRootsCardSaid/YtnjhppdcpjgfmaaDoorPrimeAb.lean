/- The contract of prime's root: it answers a root. Conditions: p an odd prime, a a square modulo p, not 0, below p. -/
import Derived.Test.YtnjhppdcpjgfmaaDoorPrimeAa
import Derived.Test.YtnjhppdcpjgfmaaDoorPrimeS
namespace Go.Proofs.YtnjhppdcpjgfmaaDoor
open Go.RowKit

set_option maxRecDepth 100000 in
set_option maxHeartbeats 6400000 in
theorem root_any (a p : Nat) (hp : Pr p) (h2 : 2 < p) (hlt : p < 4294967296) (hap : a < p) (ha : a ^ ((p - 1) / 2) % p = 1) (w : World) :
    Calls Tryd.prog 59 #[.int .u32 (a : Int), .int .u32 (p : Int)] w fun r w' => (∃ x : Nat, r = .returned (.int .u32 (x : Int)) ∧ x < p ∧ x * x % p = a) ∧ w' = w := by
  have hodd := hp.odd h2
  obtain ⟨d, T, hdT, hd⟩ := split_exists (p - 1) (by omega)
  obtain ⟨y, hy2, hyp, hy⟩ := hp.non_square h2
  have hT : T ≤ 32 := by
    rcases Nat.lt_or_ge T 33 with h1 | h1
    · omega
    · exfalso
      have h2 : 2 ^ 33 ≤ 2 ^ T := Nat.pow_le_pow_right (by omega) h1
      have h3 : 2 ^ T ≤ d * 2 ^ T := Nat.le_mul_of_pos_left _ (by omega)
      have h4 : (2 : Nat) ^ 33 = 8589934592 := by decide
      omega
  have hdp : d < p := by
    have : d ≤ d * 2 ^ T := Nat.le_mul_of_pos_right _ (Nat.two_pow_pos T)
    omega
  have Hyes := Lib.hid (fun x (hx : x < p) (h : x ^ ((p - 1) / 2) % p = 1) W => isSquare_yes x p (by omega) hp hlt (Or.inr h) W)
  have Hno := Lib.hid (fun x (hx : x < p) (h : ¬ x ^ ((p - 1) / 2) % p = 1) W => isSquare_no x p (by omega) hp hlt (fun hs => hs.elim (fun e => by omega) h) W)
  have Hpow := Lib.hid (fun x e (hx : x < p) (he : e < 18446744073709551616) W => power_all x p e (by omega) hlt (by omega) he W)
  have Htim := Lib.hid (fun x z (hx : x < p) (hz : z < p) W => times_any x z p W (by omega) (by omega) hlt (by omega))
  have Hst := Lib.hid (fun o (h1 : o ^ ((p - 1) / 2) % p ≠ 1) (h3 : o % p ≠ 0) => Ton.start hp h2 hdT hd h1 h3 ha)
  have Hnx := Lib.hid (fun (k st ou re : Nat) hs h4 hk h1 hmin => Ton.next (a := a) (p := p) (k := k) (st := st) (ou := ou) (re := re) hp hs h4 hk h1 hmin)
  have Hml := Lib.hid (fun x : Nat => Nat.mod_lt x hp.pos)
  have Hy := Lib.hid hy
  obtain ⟨m, hm⟩ : ∃ m, m = p - 1 := ⟨_, rfl⟩
  have tm : (p : Int) - 1 = (m : Int) := by omega
  rw [← hm] at hdT
  have HdT := Lib.hid hdT
  have Hd := Lib.hid hd
  have hm0 : 0 < m := by omega
  have hmp : m < p := by omega
  have Hsp := Lib.hid (fun k tw st (h : Ste p k tw st) (hk : k + 1 < tw) => h.down hp.pos hk)
  clear hp hdT hd hy ha hodd hm
  go_enter Tryd.func59, Tryd.ntmps59
  go_wp2
  go_loop [5, 6] (fun ov tv => ∃ (j i z : Nat), i + j = T ∧ z = d * 2 ^ j ∧ 0 < z ∧ z ≤ m ∧ ov = .int .u32 (z : Int) ∧ tv = .int .i64 (i : Int)) (fun ov _ => (intOf ov).toNat)
  case atStart => exact ⟨T, 0, m, by omega, HdT.out, hm0, by omega, rfl, rfl⟩
  case round =>
    obtain ⟨j, i, z, hij, hz, hz0, hzm, rfl, rfl⟩ := hrel
    cases j with
    | succ j =>
      have hz2 : z = 2 * (d * 2 ^ j) := by rw [hz, Nat.pow_succ, ← Nat.mul_assoc, Nat.mul_comm]
      obtain ⟨u, hu⟩ : ∃ u, u = d * 2 ^ j := ⟨_, rfl⟩
      rw [← hu] at hz2
      have Hu := Lib.hid hu
      clear hz hu
      have t0 : ((z : Int) % 2 == 0) = true := by simp; omega
      have t1 : (z : Int) / 2 = (u : Int) := by omega
      have Hz2 := Lib.hid hz2
      have hi : i < 32 := by omega
      clear hz2
      go_wp2
      go_round
      case rel => exact ⟨j, i + 1, u, by omega, Hu.out, by have := Hz2.out; omega, by have := Hz2.out; omega, by go_num, by go_num⟩
      case measure => have := Hz2.out; simp [intOf]; omega
    | zero =>
      obtain rfl : z = d := by simpa using hz
      obtain rfl : i = T := by omega
      clear hz hij
      have t0 : ((z : Int) % 2 == 0) = false := by simp; have := Hd.out; omega
      go_wp2
      go_loop [7] (fun ov => ∃ x : Nat, ov = .int .u32 (x : Int) ∧ 2 ≤ x ∧ x ≤ y) (fun ov => y - (intOf ov).toNat)
      case atStart => exact ⟨2, rfl, by omega, hy2⟩
      case round =>
        obtain ⟨x, rfl, hx2, hxy⟩ := hrel
        by_cases hs : x ^ ((p - 1) / 2) % p = 1
        · have hne : x ≠ y := fun h => Hy.out (h ▸ hs)
          have Hs := Lib.hid hs
          clear hs
          go_wp2_with fail
          refine (Hyes.out x (by omega) Hs.out _).mono ?_
          rintro _ _ ⟨rfl, rfl⟩
          go_wp2
          go_round
          case rel => exact ⟨x + 1, by go_num, by omega, by omega⟩
          case measure => simp [intOf]; omega
        · have Hs := Lib.hid hs
          have Ht := Lib.hid (Hst.out x hs (by rw [Nat.mod_eq_of_lt (by omega)]; omega))
          clear hs
          obtain ⟨e2, he2⟩ : ∃ e2, e2 = z / 2 := ⟨_, rfl⟩
          have te : (z : Int) / 2 = (e2 : Int) := by omega
          have he2z : e2 ≤ z := by omega
          rw [← he2] at Ht
          have p1 := fun W => Hpow.out x z (by omega) (by omega) W
          have p2 := fun W => Hpow.out a (e2 + 1) hap (by omega) W
          have p3 := fun W => Hpow.out a z hap (by omega) W
          obtain ⟨s1, hs1⟩ : ∃ s1, s1 = x ^ z % p := ⟨_, rfl⟩
          obtain ⟨s2, hs2⟩ : ∃ s2, s2 = a ^ (e2 + 1) % p := ⟨_, rfl⟩
          obtain ⟨s3, hs3⟩ : ∃ s3, s3 = a ^ z % p := ⟨_, rfl⟩
          simp only [← hs1] at p1
          simp only [← hs2] at p2
          simp only [← hs3] at p3
          rw [← hs1, ← hs2, ← hs3] at Ht
          have P1 := Lib.hid p1
          have P2 := Lib.hid p2
          have P3 := Lib.hid p3
          clear p1 p2 p3 hs1 hs2 hs3 he2
          go_wp2_with fail
          refine (Hno.out x (by omega) Hs.out _).mono ?_
          rintro _ _ ⟨rfl, rfl⟩
          go_wp2_with fail
          refine (P1.out _).mono ?_
          rintro _ _ ⟨rfl, rfl⟩
          go_wp2_with fail
          refine (P2.out _).mono ?_
          rintro _ _ ⟨rfl, rfl⟩
          go_wp2_with fail
          refine (P3.out _).mono ?_
          rintro _ _ ⟨rfl, rfl⟩
          go_wp2
          go_loop [6, 8, 9, 10, 11, 12] (fun tv sv ov rv _ _ => ∃ tw st ou re : Nat, tv = .int .i64 (tw : Int) ∧ sv = .int .u32 (st : Int) ∧ ov = .int .u32 (ou : Int) ∧ rv = .int .u32 (re : Int) ∧ tw ≤ 32 ∧ Ton a p tw st ou re) (fun tv _ _ _ _ _ => (intOf tv).toNat)
          case atStart => exact ⟨i, s1, s2, s3, rfl, rfl, rfl, rfl, hT, Ht.out⟩
          case round =>
            obtain ⟨tw, st, ou, re, rfl, rfl, rfl, rfl, htw, hton⟩ := hrel
            have htw1 := hton.1
            have hst := hton.2.2.2.2.1
            have hou := hton.2.2.2.2.2.1
            have hre := hton.2.2.2.2.2.2
            have Hton := Lib.hid hton
            clear hton
            by_cases hr1 : re = 1
            · subst hr1
              have Hroot := Lib.hid (Hton.out.done.trans (Nat.mod_eq_of_lt hap))
              go_wp2
              go_ret
              exact ⟨⟨ou, rfl, hou, Hroot.out⟩, rfl⟩
            · have t2 : ((re : Int) != 1) = true := by simp; omega
              go_wp2
              go_loop [11, 12] (fun kv qv => ∃ k q : Nat, kv = .int .i64 (k : Int) ∧ qv = .int .u32 (q : Int) ∧ k < tw ∧ q < p ∧ q = re ^ 2 ^ k % p ∧ ∀ j, j < k → re ^ 2 ^ j % p ≠ 1) (fun kv _ => tw - (intOf kv).toNat)
              case atStart => exact ⟨0, re, rfl, rfl, by omega, hre, by rw [Nat.pow_zero, Nat.pow_one, Nat.mod_eq_of_lt hre], fun j hj => by omega⟩
              case round =>
                obtain ⟨k, q, rfl, rfl, hk, hq, hqe, hmin⟩ := hrel
                by_cases hq1 : q = 1
                · subst hq1
                  have hk0 : 0 < k := by
                    rcases Nat.eq_zero_or_pos k with h | h
                    · subst h
                      rw [Nat.pow_zero, Nat.pow_one, Nat.mod_eq_of_lt hre] at hqe
                      exact absurd hqe.symm hr1
                    · exact h
                  have hk1 : k < tw := hk
                  have Hstep := Lib.hid (show Ste p k tw st from ⟨by omega, Hton.out.2.1, hst⟩)
                  have Hqe := Lib.hid hqe
                  have Hmin := Lib.hid hmin
                  clear hqe hmin
                  go_wp2
                  go_loop [6, 8] (fun tv sv => ∃ t' s' : Nat, tv = .int .i64 (t' : Int) ∧ sv = .int .u32 (s' : Int) ∧ t' ≤ tw ∧ Ste p k t' s') (fun tv _ => (intOf tv).toNat)
                  case atStart => exact ⟨tw, st, rfl, rfl, Nat.le_refl _, Hstep.out⟩
                  case round =>
                    obtain ⟨t', s', rfl, rfl, ht', hste⟩ := hrel
                    have hs1 := hste.1
                    have hs3 := hste.2.2
                    have Hste := Lib.hid hste
                    clear hste
                    have hml := Hml.out (s' * s')
                    have ht1 := fun W => Htim.out s' s' hs3 hs3 W
                    by_cases hgt : k + 1 < t'
                    · have Hd2 := Lib.hid (Hsp.out k t' s' Hste.out hgt)
                      obtain ⟨ss, hss⟩ : ∃ ss, ss = s' * s' % p := ⟨_, rfl⟩
                      simp only [← hss] at ht1 hml
                      rw [← hss] at Hd2
                      have Ht1 := Lib.hid ht1
                      obtain ⟨t2', ht2⟩ : ∃ t2, t' = t2 + 1 := ⟨t' - 1, by omega⟩
                      subst ht2
                      clear ht1 hss
                      go_wp2_with fail
                      refine (Ht1.out _).mono ?_
                      rintro _ _ ⟨rfl, rfl⟩
                      go_wp2
                      go_round
                      case rel => exact ⟨t2', ss, by go_num, rfl, by omega, Hd2.out⟩
                      case measure => simp [intOf]
                    · obtain rfl : t' = k + 1 := by omega
                      have Hn := Lib.hid (Hnx.out k s' ou re Hste.out.2.1 Hton.out.2.2.2.1 hk0 Hqe.out.symm Hmin.out)
                      have ht2 := fun W => Htim.out ou s' hou hs3 W
                      have ht3 := fun W => Htim.out re (s' * s' % p) hre hml W
                      have hml2 := Hml.out (ou * s')
                      have hml3 := Hml.out (re * (s' * s' % p))
                      obtain ⟨ss, hss⟩ : ∃ ss, ss = s' * s' % p := ⟨_, rfl⟩
                      simp only [← hss] at ht1 hml ht3 hml3
                      rw [← hss] at Hn
                      obtain ⟨oo, hoo⟩ : ∃ oo, oo = ou * s' % p := ⟨_, rfl⟩
                      obtain ⟨rr, hrr⟩ : ∃ rr, rr = re * ss % p := ⟨_, rfl⟩
                      simp only [← hoo] at ht2 hml2
                      simp only [← hrr] at ht3 hml3
                      rw [← hoo, ← hrr] at Hn
                      have Ht1 := Lib.hid ht1
                      have Ht2 := Lib.hid ht2
                      have Ht3 := Lib.hid ht3
                      clear ht1 ht2 ht3 hss hoo hrr hgt
                      go_wp2_with fail
                      refine (Ht2.out _).mono ?_
                      rintro _ _ ⟨rfl, rfl⟩
                      go_wp2_with fail
                      refine (Ht1.out _).mono ?_
                      rintro _ _ ⟨rfl, rfl⟩
                      go_wp2_with fail
                      refine (Ht3.out _).mono ?_
                      rintro _ _ ⟨rfl, rfl⟩
                      go_wp2
                      go_round
                      case rel => exact ⟨k, ss, oo, rr, rfl, rfl, rfl, rfl, by omega, Hn.out⟩
                      case measure => simp [intOf]; omega
                · have hk2 := Hton.out.shrinks hk (by rw [← hqe]; exact hq1)
                  have t3 : ((q : Int) != 1) = true := by simp; omega
                  have ht1 := fun W => Htim.out q q hq hq W
                  have hml := Hml.out (q * q)
                  have hqq : q * q % p = re ^ 2 ^ (k + 1) % p := by rw [hqe, pow_two_step]
                  have hm2 : ∀ j, j < k + 1 → re ^ 2 ^ j % p ≠ 1 := fun j hj => by
                    rcases Nat.lt_or_ge j k with h | h
                    · exact hmin j h
                    · obtain rfl : j = k := by omega
                      rw [← hqe]; exact hq1
                  have Hm2 := Lib.hid hm2
                  obtain ⟨qq, hqe2⟩ : ∃ qq, qq = q * q % p := ⟨_, rfl⟩
                  simp only [← hqe2] at ht1 hml
                  rw [← hqe2] at hqq
                  have Hqq := Lib.hid hqq
                  have Ht1 := Lib.hid ht1
                  clear hqq ht1 hqe hqe2 hmin hm2
                  go_wp2_with fail
                  refine (Ht1.out _).mono ?_
                  rintro _ _ ⟨rfl, rfl⟩
                  go_wp2
                  go_round
                  case rel => exact ⟨k + 1, qq, by go_num, rfl, hk2, hml, Hqq.out, Hm2.out⟩
                  case measure => simp [intOf]; omega
end Go.Proofs.YtnjhppdcpjgfmaaDoor
