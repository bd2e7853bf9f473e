/- The walk of PrimeParts: true. Conditions: bases is as the program lays it. -/
import Derived.Test.YtcopkeccogpkmaaDoorPkPp24
import Derived.Test.YtcopkeccogpkmaaDoorPkPp13
namespace Go.Proofs.YtcopkeccogpkmaaDoor
open Go.RowKit

theorem Least.isPr {n p : Nat} (h : Least n p) : Pr p := Pr.of_none h.1 fun e h1 h2 h0 => by
  refine h.2.2 e h1 h2 (Nat.mod_eq_zero_of_dvd (Nat.dvd_trans (Nat.dvd_of_mod_eq_zero h0) (Nat.dvd_of_mod_eq_zero h.2.1)))
theorem NoDiv.above {m p l : Nat} (h : NoDiv m (l + 1)) (hl : Least m p) : l < p := by
  rcases Nat.lt_or_ge l p with h1 | h1
  · exact h1
  · exact absurd hl.2.1 (h p hl.1 (by omega))
theorem pow_small {p t m : Nat} (hp : 2 ≤ p) (hm : 0 < m) (h : p ^ t * m < 4294967296) : t < 32 := by
  have a1 : 2 ^ t ≤ p ^ t := Nat.pow_le_pow_left hp t
  have a2 : p ^ t ≤ p ^ t * m := Nat.le_mul_of_pos_right _ hm
  have a3 : 2 ^ t < 2 ^ 32 := by have : (2 : Nat) ^ 32 = 4294967296 := by decide
                                 omega
  exact (Nat.pow_lt_pow_iff_right (by omega)).1 a3
/-- What the divisors' row gives for the sum. -/
theorem DvZ.sums {n : Nat} {S : List Nat} (h : DvZ n S) : sm tot S = n ∧ ∀ d ∈ S, 0 < d ∧ n % d = 0 ∧ d ≤ n ∧ ∀ L, FacZ d L → totZ d L = tot d := by
  rcases h with ⟨rfl, rfl⟩ | ⟨h1, L, h2, rfl⟩
  · exact ⟨rfl, fun d hd => by simp at hd⟩
  · obtain ⟨a1, a2⟩ := sum_tot h2
    have hp := srtN_perm (divL [1] L)
    refine ⟨by rw [sm_perm hp, a2], fun d hd => ?_⟩
    obtain ⟨b1, M, b2⟩ := a1 d (hp.mem_iff.1 hd)
    have b3 := b2.pos
    refine ⟨b3, Nat.mod_eq_zero_of_dvd b1, Nat.le_of_dvd (by omega) b1, fun K hK => ?_⟩
    unfold FacZ at hK
    rw [if_neg (by omega)] at hK
    unfold totZ
    rw [if_neg (by omega), tot_eq hK]
/-- What the product's loop starts from. -/
theorem FacZ.start {n : Nat} {L : List (Nat × Nat)} (h : FacZ n L) : ∃ m, Fac m L ∧ (n = 0 → m = 1 ∧ L = []) ∧ (n ≠ 0 → m = n) := by
  unfold FacZ at h
  split at h
  · subst h; exact ⟨1, rfl, fun _ => ⟨rfl, rfl⟩, fun h => by omega⟩
  · exact ⟨n, h, fun h => by omega, fun _ => rfl⟩

set_option maxRecDepth 100000 in
set_option maxHeartbeats 6400000 in
theorem primeParts_walk (n : Nat) (hn : n < 4294967296) (w : World) (hw : Bases w) :
    Calls Tryd.prog 4 #[.int .u32 (n : Int)] w fun r w' => r = .returned (.bool true) ∧ Below w.heap.size w w' := by
  have Hw := Lib.hid hw
  have hmax : maxLen = 9223372036854775807 := rfl
  go_enter Tryd.func4, Tryd.ntmps4
  go_wp2_with fail
  refine (factors_row n hn _).mono ?_
  rintro _ w1 ⟨A1, c1, L, rfl, hF1, hr1, hb1⟩
  have hlen := hF1.len hn
  obtain ⟨N, hN, hNz, hN0⟩ := hF1.start
  have HR1 := Lib.hid hr1
  have HB1 := Lib.hid hb1
  have HN0 := Lib.hid (And.intro hNz hN0)
  have HN := Lib.hid hN
  clear hF1 hr1 hb1 hN0 hN hNz
  go_wp2_with fail
  go_loopw [3, 4, 13] (fun pv lv iv W => ∃ (P m l : Nat) (D R : List (Nat × Nat)), L = D ++ R ∧ pv = .int .u64 (P : Int) ∧ lv = .int .u32 (l : Int) ∧ iv = .int .i64 (D.length : Int) ∧ N = P * m ∧ Fac m R ∧ NoDiv m (l + 1) ∧ l < 4294967296 ∧ Below w1.heap.size w1 W) (fun _ _ iv _ => L.length - (intOf iv).toNat)
  case atStart => exact ⟨1, N, 1, [], L, rfl, rfl, rfl, rfl, by simp, HN.out, NoDiv.two _, by omega, Below.refl _ _⟩
  case round =>
    obtain ⟨P, m, l, D, R, hL, rfl, rfl, rfl, hP, hR, hno, hl32, hbw⟩ := hrel
    cases R with
    | nil =>
      obtain rfl : m = 1 := hR
      have hDl : D.length = L.length := by rw [hL]; simp
      obtain rfl : N = P := by omega
      have z0 : ¬ ((L.length : Int) < (L.length : Int)) := by omega
      rw [hDl]
      have HBw := Lib.hid hbw
      clear hno hbw hL hP hDl
      by_cases hn0 : n = 0
      · have z1 : ¬ (0 < (n : Int)) := by omega
        clear hn0
        go_wp2_with fail
        refine (divisors_all n hn _).mono ?_
        rintro _ w3 ⟨A3, c3, S, hD, rfl, hr3, hS, hb3⟩
        obtain ⟨hs1, hs2⟩ := hD.sums
        have HR3 := Lib.hid hr3
        have HB3 := Lib.hid ((HB1.out.trans (HBw.out.mono HB1.out.size)).trans (hb3.mono (HB1.out.trans (HBw.out.mono HB1.out.size)).size))
        have HS2 := Lib.hid hs2
        have HS1 := Lib.hid hs1
        clear hD hr3 hb3 hs2 hs1 HB1 HBw HR1 HN0 HN
        go_wp2_with fail
        go_loopw [7, 65] (fun sv kv W => ∃ k acc : Nat, kv = .int .i64 (k : Int) ∧ sv = .int .u64 (acc : Int) ∧ k ≤ S.length ∧ acc = sm tot (S.take k) ∧ Below w3.heap.size w3 W) (fun _ kv _ => S.length - (intOf kv).toNat)
        case atStart => exact ⟨0, 0, rfl, rfl, Nat.zero_le _, rfl, Below.refl _ _⟩
        case round =>
          obtain ⟨k, acc, rfl, rfl, hk, hacc, hbk⟩ := hrel
          by_cases hlk : k < S.length
          · have zk : (k : Int) < (S.length : Int) := by omega
            have wrk : IntKind.i64.wrap ((k : Int) + 1) = (k : Int) + 1 := by rw [IntKind.wrap_i64]; omega
            have hne : u32s S ≠ [] := by intro e; have := u32s_at hlk; rw [e] at this; cases this
            obtain ⟨b3, o3, e3, hb3, hc3⟩ := (HR3.out.below hbk) hne
            have c3 := hc3 k _ (u32s_at hlk)
            obtain ⟨a1, a2, a3, a4⟩ := HS2.out S[k] (List.getElem_mem hlk)
            have hts := sm_take_succ tot hlk
            have htl := sm_take_le tot S (k + 1)
            rw [HS1.out] at htl
            obtain ⟨d, hd⟩ : ∃ d, d = S[k] := ⟨_, rfl⟩
            rw [← hd] at c3 a1 a2 a3 a4 hts
            have HT : Hid (∀ W : World, Calls Tryd.prog 9 #[.int .u32 (d : Int)] W fun r w' => r = .returned (.int .u32 ((tot d : Nat) : Int)) ∧ Below W.heap.size W w') := fun W => (totient_all d (by omega) W).mono fun _ _ ⟨K, h1, h2, h3⟩ => ⟨by rw [h2, a4 K h1], h3⟩
            obtain ⟨T, hT⟩ : ∃ T, T = tot d := ⟨_, rfl⟩
            rw [← hT] at HT hts
            have q1 : ((d : Int) == 0) = false := by simp; omega
            have q1a : ¬ (d = 0) := by omega
            have q2 : (n : Int) % (d : Int) = 0 := by omega
            have q3 : IntKind.u64.wrap (T : Int) = (T : Int) := by rw [IntKind.wrap_u64]; omega
            have q4 : IntKind.u64.wrap ((acc : Int) + (T : Int)) = ((acc + T : Nat) : Int) := by rw [IntKind.wrap_u64]; omega
            have HA : Hid (acc + T = sm tot (S.take (k + 1))) := by show _ = _; omega
            have HBk := Lib.hid hbk
            clear hbk hc3 hne a4 hts htl hd hT hacc
            subst e3
            go_wp2_with fail
            refine (HT.out _).mono ?_
            rintro _ w5 ⟨rfl, hb5⟩
            have HB5 := Lib.hid (HBk.out.trans (hb5.mono HBk.out.size))
            clear hb5
            go_wp2_with fail
            go_roundw
            case rel => exact ⟨k + 1, acc + T, by simp, by simp, by omega, HA.out, HB5.out⟩
            case measure => simp [intOf]; omega
          · obtain rfl : k = S.length := by omega
            have zk : ¬ (S.length : Int) < (S.length : Int) := by omega
            rw [List.take_length, HS1.out] at hacc
            subst hacc
            have q5 : IntKind.u64.wrap (acc : Int) = (acc : Int) := by rw [IntKind.wrap_u64]; omega
            have HBz := Lib.hid (HB3.out.trans (hbk.mono HB3.out.size))
            clear hbk
            go_wp2_with fail
            refine (awake_any _ (Hw.out.keep HBz.out Hw.out.lt)).mono ?_
            rintro _ _ ⟨rfl, rfl⟩
            go_wp2
            go_ret
            exact ⟨rfl, HBz.out⟩
      · have z1 : 0 < (n : Int) := by omega
        obtain rfl : N = n := HN0.out.2 hn0
        clear hn0
        have q0 : IntKind.u64.wrap (N : Int) = (N : Int) := by rw [IntKind.wrap_u64]; omega
        go_wp2_with fail
        refine (divisors_all N hn _).mono ?_
        rintro _ w3 ⟨A3, c3, S, hD, rfl, hr3, hS, hb3⟩
        obtain ⟨hs1, hs2⟩ := hD.sums
        have HR3 := Lib.hid hr3
        have HB3 := Lib.hid ((HB1.out.trans (HBw.out.mono HB1.out.size)).trans (hb3.mono (HB1.out.trans (HBw.out.mono HB1.out.size)).size))
        have HS2 := Lib.hid hs2
        have HS1 := Lib.hid hs1
        clear hD hr3 hb3 hs2 hs1 HB1 HBw HR1 HN0 HN
        go_wp2_with fail
        go_loopw [7, 65] (fun sv kv W => ∃ k acc : Nat, kv = .int .i64 (k : Int) ∧ sv = .int .u64 (acc : Int) ∧ k ≤ S.length ∧ acc = sm tot (S.take k) ∧ Below w3.heap.size w3 W) (fun _ kv _ => S.length - (intOf kv).toNat)
        case atStart => exact ⟨0, 0, rfl, rfl, Nat.zero_le _, rfl, Below.refl _ _⟩
        case round =>
          obtain ⟨k, acc, rfl, rfl, hk, hacc, hbk⟩ := hrel
          by_cases hlk : k < S.length
          · have zk : (k : Int) < (S.length : Int) := by omega
            have wrk : IntKind.i64.wrap ((k : Int) + 1) = (k : Int) + 1 := by rw [IntKind.wrap_i64]; omega
            have hne : u32s S ≠ [] := by intro e; have := u32s_at hlk; rw [e] at this; cases this
            obtain ⟨b3, o3, e3, hb3, hc3⟩ := (HR3.out.below hbk) hne
            have c3 := hc3 k _ (u32s_at hlk)
            obtain ⟨a1, a2, a3, a4⟩ := HS2.out S[k] (List.getElem_mem hlk)
            have hts := sm_take_succ tot hlk
            have htl := sm_take_le tot S (k + 1)
            rw [HS1.out] at htl
            obtain ⟨d, hd⟩ : ∃ d, d = S[k] := ⟨_, rfl⟩
            rw [← hd] at c3 a1 a2 a3 a4 hts
            have HT : Hid (∀ W : World, Calls Tryd.prog 9 #[.int .u32 (d : Int)] W fun r w' => r = .returned (.int .u32 ((tot d : Nat) : Int)) ∧ Below W.heap.size W w') := fun W => (totient_all d (by omega) W).mono fun _ _ ⟨K, h1, h2, h3⟩ => ⟨by rw [h2, a4 K h1], h3⟩
            obtain ⟨T, hT⟩ : ∃ T, T = tot d := ⟨_, rfl⟩
            rw [← hT] at HT hts
            have q1 : ((d : Int) == 0) = false := by simp; omega
            have q1a : ¬ (d = 0) := by omega
            have q2 : (N : Int) % (d : Int) = 0 := by omega
            have q3 : IntKind.u64.wrap (T : Int) = (T : Int) := by rw [IntKind.wrap_u64]; omega
            have q4 : IntKind.u64.wrap ((acc : Int) + (T : Int)) = ((acc + T : Nat) : Int) := by rw [IntKind.wrap_u64]; omega
            have HA : Hid (acc + T = sm tot (S.take (k + 1))) := by show _ = _; omega
            have HBk := Lib.hid hbk
            clear hbk hc3 hne a4 hts htl hd hT hacc
            subst e3
            go_wp2_with fail
            refine (HT.out _).mono ?_
            rintro _ w5 ⟨rfl, hb5⟩
            have HB5 := Lib.hid (HBk.out.trans (hb5.mono HBk.out.size))
            clear hb5
            go_wp2_with fail
            go_roundw
            case rel => exact ⟨k + 1, acc + T, by simp, by simp, by omega, HA.out, HB5.out⟩
            case measure => simp [intOf]; omega
          · obtain rfl : k = S.length := by omega
            have zk : ¬ (S.length : Int) < (S.length : Int) := by omega
            rw [List.take_length, HS1.out] at hacc
            subst hacc
            have q5 : IntKind.u64.wrap (acc : Int) = (acc : Int) := by rw [IntKind.wrap_u64]; omega
            have HBz := Lib.hid (HB3.out.trans (hbk.mono HB3.out.size))
            clear hbk
            go_wp2_with fail
            refine (awake_any _ (Hw.out.keep HBz.out Hw.out.lt)).mono ?_
            rintro _ _ ⟨rfl, rfl⟩
            go_wp2
            go_ret
            exact ⟨rfl, HBz.out⟩
    | cons x R =>
      obtain ⟨p, t⟩ := x
      obtain ⟨m2, ht, hm, hl, hmp, hR2⟩ := hR
      have hn0 : n ≠ 0 := fun h => by have := (HN0.out.1 h).2; rw [this] at hL; simp at hL
      obtain rfl : N = n := HN0.out.2 hn0
      have hNp : 0 < N := by omega
      clear hn0
      have hm2 := hR2.pos
      have hpl := hno.above hl
      have hPp : 0 < P := by
        rcases Nat.eq_zero_or_pos P with h | h
        · subst h; rw [Nat.zero_mul] at hP; omega
        · exact h
      have hmN : m ≤ N := by rw [hP]; exact Nat.le_mul_of_pos_left _ hPp
      have ht32 := pow_small (p := p) (t := t) hl.1 hm2 (by omega)
      have hp32 : p < 4294967296 := by
        have := Nat.le_of_dvd (by rw [hm]; exact Nat.mul_pos (Nat.pow_pos (by have := hl.1; omega)) hm2) (Nat.dvd_of_mod_eq_zero hl.2.1)
        omega
      have hDl : D.length < L.length := by rw [hL]; simp
      have zl : (D.length : Int) < (L.length : Int) := by omega
      obtain ⟨b, off, rfl, hbl, hca, hcb⟩ := (HR1.out.below hbw).fac_at hDl
      have hx : L[D.length] = (p, t) := by simp [hL]
      simp only [hx] at hca hcb
      have z1 : ¬ ((p : Int) ≤ (l : Int)) := by omega
      have z2 : ¬ ((t : Int) < 1) := by omega
      have z3 : ¬ ((32 : Int) < (t : Int)) := by omega
      have HI := Lib.hid (fun W hW => is_yes p hl.isPr hp32 W hW)
      have HBw := Lib.hid hbw
      have HW1 := Lib.hid (fun o => (Hw.out.keep (HB1.out.trans (hbw.mono HB1.out.size)) Hw.out.lt).alloc o)
      have HR2 := Lib.hid hR2
      have HX := Lib.hid (And.intro hL (And.intro hP (And.intro hm (And.intro hl (And.intro hmp hno)))))
      clear hL hP hm hl hmp hno hR2 hbw hx
      go_wp2_with fail
      refine (HI.out _ (HW1.out _)).mono ?_
      rintro _ W2 ⟨rfl, hW2⟩
      have hbk : Blk W2 wr.heap.size 29 [.int .u32 (p : Int), .int .i64 (t : Int)] := by rw [hW2]; exact Blk.new_ rfl
      have h6a : W2.cell? ⟨wr.heap.size, 0, none⟩ = some (.int .u32 (p : Int)) := hbk.cell 0
      have h6b : W2.cell? ⟨wr.heap.size, 1, none⟩ = some (.int .i64 (t : Int)) := hbk.cell 1
      have HB2 := Lib.hid (show Below w1.heap.size w1 W2 from by rw [hW2]; exact HBw.out.alloc HBw.out.size _)
      clear hW2 hbk
      have q1 : IntKind.u64.wrap (p : Int) = (p : Int) := by rw [IntKind.wrap_u64]; omega
      have q2 : IntKind.u64.wrap (N : Int) = (N : Int) := by rw [IntKind.wrap_u64]; omega
      go_wp2_with fail
      go_loopw [3, 41] (fun pv jv W => ∃ j Q : Nat, j ≤ t ∧ Q = P * p ^ j ∧ pv = .int .u64 (Q : Int) ∧ jv = .int .i64 (j : Int) ∧ W = W2) (fun _ jv _ => t - (intOf jv).toNat)
      case atStart => exact ⟨0, P, Nat.zero_le _, by simp, rfl, rfl, rfl⟩
      case round =>
        obtain ⟨j, Q, hjt, hQ, rfl, rfl, rfl⟩ := hrel
        by_cases hj : j < t
        · have z4 : (j : Int) < (t : Int) := by omega
          obtain ⟨Q2, hQ2⟩ : ∃ Q2, Q2 = P * p ^ (j + 1) := ⟨_, rfl⟩
          have hQQ : Q * p = Q2 := by rw [hQ, hQ2, Nat.pow_succ, Nat.mul_assoc]
          have hQN : Q2 ≤ N := by
            obtain ⟨_, h2, h3, h4, _, _⟩ := HX.out
            have h5 : p ^ (j + 1) ≤ p ^ t := Nat.pow_le_pow_right (by have := h4.1; omega) (by omega)
            have h6 : p ^ t ≤ p ^ t * m2 := Nat.le_mul_of_pos_right _ hm2
            rw [h2, hQ2, h3]
            exact Nat.mul_le_mul_left _ (by omega)
          have q3 : IntKind.u64.wrap ((Q : Int) * (p : Int)) = (Q2 : Int) := by rw [← Int.natCast_mul, hQQ, IntKind.wrap_u64]; omega
          have z5 : ¬ ((N : Int) < (Q2 : Int)) := by omega
          have wrj : IntKind.i64.wrap ((j : Int) + 1) = (j : Int) + 1 := by rw [IntKind.wrap_i64]; omega
          have HQ2 := Lib.hid hQ2
          clear hQ hQ2 hQQ
          go_wp2_with fail
          go_roundw
          case rel => exact ⟨j + 1, Q2, by omega, HQ2.out, by simp, by simp, by simp⟩
          case measure => simp [intOf]; omega
        · obtain rfl : j = t := by omega
          have z4 : ¬ ((j : Int) < (j : Int)) := by omega
          have wrD : IntKind.i64.wrap ((D.length : Int) + 1) = (D.length : Int) + 1 := by rw [IntKind.wrap_i64]; omega
          have HQ := Lib.hid hQ
          clear hQ
          go_wp2_with fail
          go_roundw
          case rel =>
            obtain ⟨h1, h2, h3, h4, h5, h6⟩ := HX.out
            exact ⟨Q, m2, p, D ++ [(p, j)], R, by rw [h1]; simp, by simp, by simp, by simp, by rw [h2, HQ.out, h3, Nat.mul_assoc], HR2.out, h4.2.2.strip h3 h5, hp32, HB2.out⟩
          case measure => simp [intOf]; omega
end Go.Proofs.YtcopkeccogpkmaaDoor
