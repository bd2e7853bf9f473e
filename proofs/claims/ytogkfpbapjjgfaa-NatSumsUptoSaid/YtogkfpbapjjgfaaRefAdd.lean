/- The contracts of the reference's Add and Mul. Conditions: fewer limbs than any slice can have. -/
import Derived.Test.YtogkfpbapjjgfaaMulN
import Derived.Test.YtogkfpbapjjgfaaRefSh
namespace Go.Proofs.Ytogkfpbapjjgfaa
open Go.RowKit

theorem add_at0 {b : Nat} {xs ys : List Nat} {k : Nat} : val b (xs.take k) + val b (ys.take k) + b ^ k * (at0 xs k + at0 ys k) = val b (xs.take (k + 1)) + val b (ys.take (k + 1)) := by
  rw [val_take_at0, val_take_at0, Nat.mul_add]; omega

set_option maxHeartbeats 1600000 in
theorem radd_any (A A2 : Option Addr) (c c2 : Nat) (xs ys : List Nat) (w : World) (B : Nat) (hr : Rd w B A (u32s xs)) (hr2 : Rd w B A2 (u32s ys)) (hB : B ≤ w.heap.size) (hd : Dig 4294967296 xs) (hd2 : Dig 4294967296 ys) (hm : xs.length ≤ 70368744170000) (hm2 : ys.length ≤ 70368744170000) :
    Calls Try.prog 14 #[.slice A xs.length c, .slice A2 ys.length c2] w fun e w' => ∃ zs A' c', e = .returned (.slice A' zs.length c') ∧ Num 4294967296 zs (val 4294967296 xs + val 4294967296 ys) ∧ Res w' w.heap.size 34 A' c' (u32s zs) ∧ Below w.heap.size w w' := by
  have hm1 : xs.length ≤ 281474976710656 := by omega
  have hm3 : ys.length ≤ 281474976710656 := by omega
  go_enter Try.func14, Try.ntmps14
  go_upto_if 15 with (fail)
  go_cut [5] (fun s wc => ∃ n : Nat, s = .int .i64 n ∧ xs.length ≤ n ∧ ys.length ≤ n ∧ n ≤ 70368744170000 ∧ wc = w)
  case first =>
    by_cases hlt : xs.length < ys.length
    · go_wp2
      go_meet
      exact ⟨ys.length, rfl, by omega, by omega, by omega, rfl⟩
    · go_wp2
      go_meet
      exact ⟨xs.length, rfl, by omega, by omega, by omega, rfl⟩
  case rest =>
    obtain ⟨n, rfl, hn1, hn2, hnm, rfl⟩ := hcut
    have hmk := fun W => mk32s n (by omega) W
    obtain ⟨os, hos⟩ : ∃ os, os = List.replicate (n + 1) 0 := ⟨_, rfl⟩
    have hol : os.length = n + 1 := by rw [hos]; simp
    have ho0 : Hid (∀ k (h : k < os.length), os[k] = 0) := by subst hos; exact fun k h => by simp
    have hov : Hid (val 4294967296 os = 0) := by rw [hos]; exact val_zeros _ _
    have hod : Dig 4294967296 os := by rw [hos]; exact Dig.zeros_ (by omega) _
    have hblk0 : Blk (wc.alloc (.cells (Array.replicate (n + 1) (Value.int .u32 0)) 34)) wc.heap.size 34 (u32s os) := by rw [hos]; exact Blk.new_ (by simp [u32s])
    have Hol := Lib.hid hol
    clear hos hol
    go_wp2_with fail
    go_loopw [7, 8, 9, 23] (fun cv _ _ i wr => ∃ (k cc : Nat) (zs : List Nat), k ≤ n + 1 ∧ i = .int .i64 k ∧ cv = .int .u64 cc ∧ cc ≤ 1 ∧ Blk wr wc.heap.size 34 (u32s zs) ∧ Acc 4294967296 os (val 4294967296 (xs.take k) + val 4294967296 (ys.take k)) k zs cc ∧ Below wc.heap.size wc wr) (fun _ _ _ i _ => n + 1 - (intOf i).toNat)
    case atStart => exact ⟨0, 0, os, by omega, rfl, rfl, by omega, hblk0, by simpa [val] using Acc.start hod, (Below.refl _ _).alloc (Nat.le_refl _) _⟩
    case round =>
      clear hblk0
      obtain ⟨k, cc, zs, hk, rfl, rfl, hcc, hblk, hacc, hbel⟩ := hrel
      by_cases hlt : k < n + 1
      · have hko : k < os.length := by rw [Hol.out]; exact hlt
        obtain ⟨hz1, hzk⟩ := hacc.at_ hko
        have hc2 := (hblk.cell k).trans (u32s_at hz1)
        have hf2 := hblk.frozen k
        have ha := at0_lt hd k
        have hb := at0_lt hd2 k
        obtain ⟨x, hxe⟩ : ∃ x, x = at0 xs k := ⟨_, rfl⟩
        obtain ⟨y, hye⟩ : ∃ y, y = at0 ys k := ⟨_, rfl⟩
        rw [← hxe] at ha
        rw [← hye] at hb
        obtain ⟨sm, hsme⟩ : ∃ sm, sm = x + y + cc := ⟨_, rfl⟩
        have e2 : (x : Int) + (y : Int) + (cc : Int) = (sm : Int) := by omega
        have hsb : sm < 8589934592 := by omega
        have hrw := hr.below (hbel.mono hB)
        have hrw2 := hr2.below (hbel.mono hB)
        have hkb : k ≤ 9223372036854775807 := by omega
        have hln := hlt
        have Hx := Lib.hid hxe
        have Hy := Lib.hid hye
        have Hsm := Lib.hid hsme
        clear hxe hye hsme hzk
        go_wp2_with (first
          | (go_at_call 36; (with_reducible refine (limb_any A c xs k _ B hrw hd hm1 hkb).mono ?_); rintro e w' ⟨rfl, rfl⟩; rw [← Hx.out])
          | (go_at_call 36; (with_reducible refine (limb_any A2 c2 ys k _ B hrw2 hd2 hm3 hkb).mono ?_); rintro e w' ⟨rfl, rfl⟩; rw [← Hy.out]))
        go_roundw
        case rel =>
          have h9 := hacc.step (d := at0 xs k + at0 ys k) (r := sm % 4294967296) (q := sm / 4294967296) hko (by omega) (by rw [ho0.out k hko, ← Hx.out, ← Hy.out]; have := Hsm.out; omega)
          rw [add_at0] at h9
          refine ⟨k + 1, sm / 4294967296, zs.set k (sm % 4294967296), by omega, by go_num, rfl, by omega, ?_, h9, hbel.setCell (p := ⟨wc.heap.size, k, none⟩) (Nat.le_refl _) _⟩
          have hb2 := hblk.set_ k (Value.int IntKind.u32 ((sm % 4294967296 : Nat) : Int))
          rw [u32s_set] at hb2
          exact hb2
        case measure => simp [intOf]; omega
      · have hkn : k = n + 1 := by omega
        have hkl : n + 1 ≤ k := by omega
        have hlen : zs.length = n + 1 := hacc.2.1.trans Hol.out
        have Hlen := Lib.hid hlen
        have hv : val 4294967296 zs = val 4294967296 xs + val 4294967296 ys := by
          have h9 := hacc.2.2.1
          rw [hov.out, hkn, List.take_of_length_le (by omega), List.take_of_length_le (by omega), Nat.zero_add] at h9
          exact carry_zero2 h9 (sum_lt (by omega) (val_lt_le hd hn1 (by omega)) (val_lt_le hd2 hn2 (by omega)))
        have Hv := Lib.hid hv
        have hrd := (Res.of_blk0 hblk (Nat.le_refl _) (by rw [u32s_length]; omega)).rd
        have hzm : zs.length ≤ 70368744177664 := by omega
        clear hkn hlen hv
        go_wp2_with (go_at_call 17; rw [← Hlen.out]; refine (rnorm_any _ _ zs wr _ hrd (Nat.le_refl _) hzm).mono ?_; rintro e w2 ⟨A', c', rfl, hres, hb⟩)
        go_ret
        refine ⟨trimL zs, A', c', rfl, ?_, hres.mono hbel.size, hbel.trans (hb.mono hbel.size)⟩
        rw [← Hv.out]
        exact Num.of_trim hacc.1

theorem Num.len_le {zs : List Nat} {n N : Nat} (h : Num 4294967296 zs n) (hn : n < 4294967296 ^ N) : zs.length ≤ N := by
  rw [← h.2.1]; exact trimL_len_le (by omega) h.1 (by rw [h.2.2]; exact hn)
theorem drop_val {b : Nat} {qs : List Nat} {k : Nat} (h : k < qs.length) : val b (qs.drop k) = qs[k] + b * val b (qs.drop (k + 1)) := by
  rw [List.drop_eq_getElem_cons h]; rfl

set_option maxHeartbeats 3200000 in
set_option maxRecDepth 100000 in
theorem rmul_any (A A2 : Option Addr) (c c2 : Nat) (xs ys : List Nat) (w : World) (B : Nat) (hr : Rd w B A (u32s xs)) (hr2 : Rd w B A2 (u32s ys)) (hB : B ≤ w.heap.size) (hd : Dig 4294967296 xs) (hd2 : Dig 4294967296 ys) (hm : xs.length ≤ 70368744170000) (hm2 : ys.length ≤ 70368744170000) (hmm : (trimL xs).length + (trimL ys).length ≤ 35184372088000) :
    Calls Try.prog 15 #[.slice A xs.length c, .slice A2 ys.length c2] w fun e w' => ∃ zs A' c', e = .returned (.slice A' zs.length c') ∧ Num 4294967296 zs (val 4294967296 xs * val 4294967296 ys) ∧ Res w' w.heap.size 34 A' c' (u32s zs) ∧ Below w.heap.size w w' := by
  have hn1 := Num.of_trim hd
  have hn2 := Num.of_trim hd2
  obtain ⟨m, hmv⟩ : ∃ m, m = val 4294967296 xs := ⟨_, rfl⟩
  obtain ⟨n, hnv⟩ : ∃ n, n = val 4294967296 ys := ⟨_, rfl⟩
  rw [← hmv] at hn1
  rw [← hnv] at hn2
  rw [← hmv, ← hnv]
  have HA := Lib.hid (rnorm_any A c xs w B hr hB (by omega))
  have HB := Lib.hid (fun W (hW : Below w.heap.size w W) => rnorm_any A2 c2 ys W B (hr2.below (hW.mono hB)) (Nat.le_trans hB hW.size) (by omega))
  obtain ⟨ps, hps⟩ : ∃ ps, ps = trimL xs := ⟨_, rfl⟩
  obtain ⟨qs, hqs⟩ : ∃ qs, qs = trimL ys := ⟨_, rfl⟩
  rw [← hps] at hn1 hmm HA
  rw [← hqs] at hn2 hmm HB
  have hdp := hn1.1
  have hdq := hn2.1
  have Hm : Hid (val 4294967296 ps = m) := hn1.2.2
  have Hn : Hid (val 4294967296 qs = n) := hn2.2.2
  clear hps hqs hmv hnv hn1 hn2 hr hr2
  go_enter Try.func15, Try.ntmps15
  go_wp2_with fail
  refine HA.out.mono ?_
  rintro e w1 ⟨A1, c1, rfl, hres1, hb1⟩
  go_wp2_with fail
  refine (HB.out w1 hb1).mono ?_
  rintro e w2 ⟨A3, c3, rfl, hres2, hb2⟩
  have hr1 : Rd w2 w2.heap.size A1 (u32s ps) := (hres1.below hb2 (Nat.le_refl _)).rd
  have hr3 : Rd w2 w2.heap.size A3 (u32s qs) := hres2.rd
  have hB2 := hb1.trans (hb2.mono hb1.size)
  clear HA HB hres1 hres2 hb1 hb2
  go_wp2_with fail
  go_loopw [5, 6] (fun ov iv wr => ∃ (k : Nat) (os : List Nat) (A4 : Option Addr) (c4 : Nat), k ≤ qs.length ∧ iv = .int .i64 ((k : Int) - 1) ∧ ov = .slice A4 os.length c4 ∧ Num 4294967296 os (m * val 4294967296 (qs.drop k)) ∧ Rd wr wr.heap.size A4 (u32s os) ∧ Below w2.heap.size w2 wr) (fun _ iv _ => (intOf iv + 1).toNat)
  case atStart => exact ⟨qs.length, [], none, 0, Nat.le_refl _, rfl, rfl, by simp [val]; exact Num.zero_ _, Rd.nil_, Below.refl _ _⟩
  case round =>
    obtain ⟨k, os, A4, c4, hk, rfl, rfl, hnum, hro, hbel⟩ := hrel
    have hw2s := hB2.size
    rcases k with _ | k
    · go_wp2_with fail
      have hol : os.length ≤ 35184372088000 := by
        have := hnum.len_le (N := ps.length + qs.length) (by rw [List.drop_zero, ← Hm.out]; exact prod_lt hdp hdq (by omega))
        omega
      refine (rnorm_any A4 c4 os wr _ hro (Nat.le_refl _) (by omega)).mono ?_
      rintro e w3 ⟨A', c', rfl, hres, hb⟩
      have hwr := hbel.size
      go_wp2_with fail
      go_ret
      refine ⟨trimL os, A', c', rfl, ?_, hres.mono (by omega), hB2.trans ((hbel.mono hw2s).trans (hb.mono (by omega)))⟩
      rw [hnum.2.1]
      rw [List.drop_zero, Hn.out] at hnum
      exact hnum
    · rw [show ((k + 1 : Nat) : Int) - 1 = (k : Int) from by omega]
      have hkq : k < qs.length := by omega
      obtain ⟨b2, off2, rfl, hb2, hy⟩ := hr3.at32 hkq
      have hy := (hbel.cell (p := ⟨b2, off2 + k, none⟩) hb2).trans hy
      have hyd := hdq.at_ k hkq
      have hwr := hbel.size
      have hol : os.length ≤ 35184372088000 := by
        have := hnum.len_le (N := ps.length + (qs.drop (k + 1)).length) (by rw [← Hm.out]; exact prod_lt hdp (hdq.drop_ _) (by omega))
        rw [List.length_drop] at this
        omega
      have hpl : ps.length ≤ 35184372088000 := by omega
      obtain ⟨y, hye⟩ : ∃ y, y = qs[k] := ⟨_, rfl⟩
      rw [← hye] at hy hyd
      have hvd := drop_val (b := 4294967296) hkq
      rw [← hye] at hvd
      have Hsh : Hid (∀ W, Below wr.heap.size wr W → Calls Try.prog 38 #[.slice A4 os.length c4, .int .u32 0] W fun e w' => ∃ zs A' c', e = .returned (.slice A' zs.length c') ∧ Num 4294967296 zs (4294967296 * (m * val 4294967296 (qs.drop (k + 1)))) ∧ Res w' W.heap.size 34 A' c' (u32s zs) ∧ Below W.heap.size W w') := fun W hW => by
        have h9 := rshift_any A4 c4 os 0 W wr.heap.size (hro.below hW) hW.size hnum.1 (by omega) (by omega)
        rw [hnum.2.2, Nat.zero_add] at h9
        exact h9
      have Hsm : Hid (∀ W, Below wr.heap.size wr W → Calls Try.prog 39 #[.slice A1 ps.length c1, .int .u32 (y : Int)] W fun e w' => ∃ zs A' c', e = .returned (.slice A' zs.length c') ∧ Num 4294967296 zs (m * y) ∧ Res w' W.heap.size 34 A' c' (u32s zs) ∧ Below W.heap.size W w') := fun W hW => by
        have h9 := rsmall_any A1 c1 ps y W wr.heap.size (((hr1.below hbel).mono hwr).below hW) hW.size hdp hyd (by omega)
        rw [Hm.out] at h9
        exact h9
      have Hvd : Hid (4294967296 * (m * val 4294967296 (qs.drop (k + 1))) + m * y = m * val 4294967296 (qs.drop k)) := by
        show _ = _
        rw [hvd, Nat.mul_add, ← Nat.mul_assoc, Nat.mul_comm 4294967296 m, Nat.mul_assoc, Nat.add_comm]
      have hsl : ∀ zs, Num 4294967296 zs (4294967296 * (m * val 4294967296 (qs.drop (k + 1)))) → zs.length ≤ 35184372088001 := fun zs hz => by
        have h1 : m * val 4294967296 (qs.drop (k + 1)) < 4294967296 ^ (ps.length + (qs.drop (k + 1)).length) := by rw [← Hm.out]; exact prod_lt hdp (hdq.drop_ _) (by omega)
        have h2 := hz.len_le (N := ps.length + (qs.drop (k + 1)).length + 1) (by
          rw [Nat.pow_succ, Nat.mul_comm (4294967296 ^ _)]
          exact Nat.mul_lt_mul_of_pos_left h1 (by omega))
        rw [List.length_drop] at h2
        omega
      have hml : ∀ zs, Num 4294967296 zs (m * y) → zs.length ≤ 35184372088001 := fun zs hz => by
        have h1 : m * y < 4294967296 ^ (ps.length + 1) := by
          rw [← Hm.out, Nat.pow_succ]
          exact Nat.mul_lt_mul_of_lt_of_le (val_lt _ ps hdp) (Nat.le_of_lt hyd) (by omega)
        have h2 := hz.len_le h1
        omega
      have Hsl : Hid (∀ zs, Num 4294967296 zs (4294967296 * (m * val 4294967296 (qs.drop (k + 1)))) → zs.length ≤ 35184372088001) := hsl
      have Hml : Hid (∀ zs, Num 4294967296 zs (m * y) → zs.length ≤ 35184372088001) := hml
      have hbw2 : b2 < wr.heap.size := by omega
      clear hye hvd hsl hml hnum
      go_upto_region 6 with (fail)
      go_region_held3 (fun W => W.cell? ⟨b2, off2 + k, none⟩ = some (.int .u32 (y : Int))) (first | go_keep | exact Hca.out | exact Hcb.out | exact Hcc.out) (first
        | (go_at_call 38; (with_reducible refine (Hsh.out _ (by first | exact Below.refl _ _ | exact (Below.refl _ _).drew | exact hBb | exact hBb.drew)).mono ?_); rintro e wa ⟨za, Aa, ca, rfl, hza, hra, hba⟩; have hBa : Below wr.heap.size wr wa := (by first | exact hba | exact (Below.refl _ _).drew.trans hba | exact hBb.trans (hba.mono hBb.size) | exact hBb.drew.trans (hba.mono hBb.size)); have Hca := Lib.hid (show wa.cell? ⟨b2, off2 + k, none⟩ = some (.int .u32 (y : Int)) from (hBa.cell (p := ⟨b2, off2 + k, none⟩) hbw2).trans hy); have hla := Hsl.out _ hza)
        | (go_at_call 39; (with_reducible refine (Hsm.out _ (by first | exact Below.refl _ _ | exact (Below.refl _ _).drew | exact hBa | exact hBa.drew)).mono ?_); rintro e wb ⟨zb, Ab, cb, rfl, hzb, hrb, hbb⟩; have hBb : Below wr.heap.size wr wb := (by first | exact hbb | exact (Below.refl _ _).drew.trans hbb | exact hBa.trans (hbb.mono hBa.size) | exact hBa.drew.trans (hbb.mono hBa.size)); have Hcb := Lib.hid (show wb.cell? ⟨b2, off2 + k, none⟩ = some (.int .u32 (y : Int)) from (hBb.cell (p := ⟨b2, off2 + k, none⟩) hbw2).trans hy); have hlb := Hml.out _ hzb)
        | (go_at_call 14; refine (radd_any Aa Ab ca cb za zb _ _ (by first | exact hra.rd | exact (hra.below hbb (Nat.le_refl _)).rd | exact (hra.below (Below.refl _ _).drew (Nat.le_refl _)).rd | exact ((hra.below (Below.refl _ _).drew (Nat.le_refl _)).below hbb (Nat.le_refl _)).rd) (by first | exact hrb.rd | exact (hrb.below hba (Nat.le_refl _)).rd | exact (hrb.below (Below.refl _ _).drew (Nat.le_refl _)).rd | exact ((hrb.below (Below.refl _ _).drew (Nat.le_refl _)).below hba (Nat.le_refl _)).rd) (Nat.le_refl _) hza.1 hzb.1 (by omega) (by omega)).mono ?_; rintro e wc ⟨zc, Ac, cc, rfl, hzc, hrc, hbc⟩; have hBc : Below wr.heap.size wr wc := (by first | exact hBa.trans (hbc.mono hBa.size) | exact hBb.trans (hbc.mono hBb.size) | exact hBa.drew.trans (hbc.mono hBa.size) | exact hBb.drew.trans (hbc.mono hBb.size)); have Hcc := Lib.hid (show wc.cell? ⟨b2, off2 + k, none⟩ = some (.int .u32 (y : Int)) from (hBc.cell (p := ⟨b2, off2 + k, none⟩) hbw2).trans hy)))
      all_goals
        go_wp2_with fail
        go_roundw
        case rel =>
          have hv := hzc
          rw [hza.2.2, hzb.2.2, Hvd.out] at hv
          exact ⟨k, zc, Ac, cc, by omega, by go_num, rfl, hv, hrc.rd, hbel.trans (hBc.mono hwr)⟩
        case measure => simp [intOf]
end Go.Proofs.Ytogkfpbapjjgfaa
