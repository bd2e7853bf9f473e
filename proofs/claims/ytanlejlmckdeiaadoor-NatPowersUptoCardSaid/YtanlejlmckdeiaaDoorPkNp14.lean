/- The contracts of the reference's Add and Mul. Conditions: fewer limbs than any slice can have. The contract of the reference's Len. The contract of the reference's Left. The contracts of the reference's operations that its Sqrt and Pow call, on sizes that are held. Conditions: at most 2^26 limbs. -/
import Derived.Test.YtanlejlmckdeiaaDoorPkNp9
import Derived.Test.YtanlejlmckdeiaaDoorPkNp6
import Derived.Test.YtanlejlmckdeiaaDoorPkNp5
import Derived.Deep.RegionLaw
import Derived.Deep.RegionHeld3
import Derived.Deep.DeepCutAuto
import Derived.Test.YtanlejlmckdeiaaDoorPkNp13
namespace Go.Proofs.YtanlejlmckdeiaaDoor
section
open Go.RowKit

theorem add_at0 {b : Nat} {xs ys : List Nat} {k : Nat} : val b (xs.take k) + val b (ys.take k) + b ^ k * (at0 xs k + at0 ys k) = val b (xs.take (k + 1)) + val b (ys.take (k + 1)) := by
  rw [val_take_at0, val_take_at0, Nat.mul_add]; omega

set_option maxHeartbeats 1600000 in
theorem radd_any (A A2 : Option Addr) (c c2 : Nat) (xs ys : List Nat) (w : World) (B : Nat) (hr : Rd w B A (u32s xs)) (hr2 : Rd w B A2 (u32s ys)) (hB : B ≤ w.heap.size) (hd : Dig 4294967296 xs) (hd2 : Dig 4294967296 ys) (hm : xs.length ≤ 70368744170000) (hm2 : ys.length ≤ 70368744170000) :
    Calls Tryd.prog 25 #[.slice A xs.length c, .slice A2 ys.length c2] w fun e w' => ∃ zs A' c', e = .returned (.slice A' zs.length c') ∧ Num 4294967296 zs (val 4294967296 xs + val 4294967296 ys) ∧ Res w' w.heap.size 36 A' c' (u32s zs) ∧ Below w.heap.size w w' := by
  have hm1 : xs.length ≤ 281474976710656 := by omega
  have hm3 : ys.length ≤ 281474976710656 := by omega
  go_enter Tryd.func25, Tryd.ntmps25
  go_upto_if 15 with (fail)
  go_cut [5] (fun s wc => ∃ n : Nat, s = .int .i64 n ∧ xs.length ≤ n ∧ ys.length ≤ n ∧ n ≤ 70368744170000 ∧ wc = w)
  case first =>
    by_cases hlt : xs.length < ys.length
    · go_wp2
      go_meet
      exact ⟨ys.length, rfl, by omega, by omega, by omega, rfl⟩
    · go_wp2
      go_meet
      exact ⟨xs.length, rfl, by omega, by omega, by omega, rfl⟩
  case rest =>
    obtain ⟨n, rfl, hn1, hn2, hnm, rfl⟩ := hcut
    have hmk := fun W => mk32s n (by omega) W
    obtain ⟨os, hos⟩ : ∃ os, os = List.replicate (n + 1) 0 := ⟨_, rfl⟩
    have hol : os.length = n + 1 := by rw [hos]; simp
    have ho0 : Hid (∀ k (h : k < os.length), os[k] = 0) := by subst hos; exact fun k h => by simp
    have hov : Hid (val 4294967296 os = 0) := by rw [hos]; exact val_zeros _ _
    have hod : Dig 4294967296 os := by rw [hos]; exact Dig.zeros_ (by omega) _
    have hblk0 : Blk (wc.alloc (.cells (Array.replicate (n + 1) (Value.int .u32 0)) 36)) wc.heap.size 36 (u32s os) := by rw [hos]; exact Blk.new_ (by simp [u32s])
    have Hol := Lib.hid hol
    clear hos hol
    go_wp2_with fail
    go_loopw [7, 8, 9, 23] (fun cv _ _ i wr => ∃ (k cc : Nat) (zs : List Nat), k ≤ n + 1 ∧ i = .int .i64 k ∧ cv = .int .u64 cc ∧ cc ≤ 1 ∧ Blk wr wc.heap.size 36 (u32s zs) ∧ Acc 4294967296 os (val 4294967296 (xs.take k) + val 4294967296 (ys.take k)) k zs cc ∧ Below wc.heap.size wc wr) (fun _ _ _ i _ => n + 1 - (intOf i).toNat)
    case atStart => exact ⟨0, 0, os, by omega, rfl, rfl, by omega, hblk0, by simpa [val] using Acc.start hod, (Below.refl _ _).alloc (Nat.le_refl _) _⟩
    case round =>
      clear hblk0
      obtain ⟨k, cc, zs, hk, rfl, rfl, hcc, hblk, hacc, hbel⟩ := hrel
      by_cases hlt : k < n + 1
      · have hko : k < os.length := by rw [Hol.out]; exact hlt
        obtain ⟨hz1, hzk⟩ := hacc.at_ hko
        have hc2 := (hblk.cell k).trans (u32s_at hz1)
        have hf2 := hblk.frozen k
        have ha := at0_lt hd k
        have hb := at0_lt hd2 k
        obtain ⟨x, hxe⟩ : ∃ x, x = at0 xs k := ⟨_, rfl⟩
        obtain ⟨y, hye⟩ : ∃ y, y = at0 ys k := ⟨_, rfl⟩
        rw [← hxe] at ha
        rw [← hye] at hb
        obtain ⟨sm, hsme⟩ : ∃ sm, sm = x + y + cc := ⟨_, rfl⟩
        have e2 : (x : Int) + (y : Int) + (cc : Int) = (sm : Int) := by omega
        have hsb : sm < 8589934592 := by omega
        have hrw := hr.below (hbel.mono hB)
        have hrw2 := hr2.below (hbel.mono hB)
        have hkb : k ≤ 9223372036854775807 := by omega
        have hln := hlt
        have Hx := Lib.hid hxe
        have Hy := Lib.hid hye
        have Hsm := Lib.hid hsme
        clear hxe hye hsme hzk
        go_wp2_with (first
          | (go_at_call 45; (with_reducible refine (limb_any A c xs k _ B hrw hd hm1 hkb).mono ?_); rintro e w' ⟨rfl, rfl⟩; rw [← Hx.out])
          | (go_at_call 45; (with_reducible refine (limb_any A2 c2 ys k _ B hrw2 hd2 hm3 hkb).mono ?_); rintro e w' ⟨rfl, rfl⟩; rw [← Hy.out]))
        go_roundw
        case rel =>
          have h9 := hacc.step (d := at0 xs k + at0 ys k) (r := sm % 4294967296) (q := sm / 4294967296) hko (by omega) (by rw [ho0.out k hko, ← Hx.out, ← Hy.out]; have := Hsm.out; omega)
          rw [add_at0] at h9
          refine ⟨k + 1, sm / 4294967296, zs.set k (sm % 4294967296), by omega, by go_num, rfl, by omega, ?_, h9, hbel.setCell (p := ⟨wc.heap.size, k, none⟩) (Nat.le_refl _) _⟩
          have hb2 := hblk.set_ k (Value.int IntKind.u32 ((sm % 4294967296 : Nat) : Int))
          rw [u32s_set] at hb2
          exact hb2
        case measure => simp [intOf]; omega
      · have hkn : k = n + 1 := by omega
        have hkl : n + 1 ≤ k := by omega
        have hlen : zs.length = n + 1 := hacc.2.1.trans Hol.out
        have Hlen := Lib.hid hlen
        have hv : val 4294967296 zs = val 4294967296 xs + val 4294967296 ys := by
          have h9 := hacc.2.2.1
          rw [hov.out, hkn, List.take_of_length_le (by omega), List.take_of_length_le (by omega), Nat.zero_add] at h9
          exact carry_zero2 h9 (sum_lt (by omega) (val_lt_le hd hn1 (by omega)) (val_lt_le hd2 hn2 (by omega)))
        have Hv := Lib.hid hv
        have hrd := (Res.of_blk0 hblk (Nat.le_refl _) (by rw [u32s_length]; omega)).rd
        have hzm : zs.length ≤ 70368744177664 := by omega
        clear hkn hlen hv
        go_wp2_with (go_at_call 29; rw [← Hlen.out]; refine (rnorm_any _ _ zs wr _ hrd (Nat.le_refl _) hzm).mono ?_; rintro e w2 ⟨A', c', rfl, hres, hb⟩)
        go_ret
        refine ⟨trimL zs, A', c', rfl, ?_, hres.mono hbel.size, hbel.trans (hb.mono hbel.size)⟩
        rw [← Hv.out]
        exact Num.of_trim hacc.1

theorem Num.len_le9 {zs : List Nat} {n N : Nat} (h : Num 4294967296 zs n) (hn : n < 4294967296 ^ N) : zs.length ≤ N := by
  rw [← h.2.1]; exact trimL_len_le (by omega) h.1 (by rw [h.2.2]; exact hn)
theorem drop_val {b : Nat} {qs : List Nat} {k : Nat} (h : k < qs.length) : val b (qs.drop k) = qs[k] + b * val b (qs.drop (k + 1)) := by
  rw [List.drop_eq_getElem_cons h]; rfl

set_option maxHeartbeats 3200000 in
set_option maxRecDepth 100000 in
theorem rmul_any (A A2 : Option Addr) (c c2 : Nat) (xs ys : List Nat) (w : World) (B : Nat) (hr : Rd w B A (u32s xs)) (hr2 : Rd w B A2 (u32s ys)) (hB : B ≤ w.heap.size) (hd : Dig 4294967296 xs) (hd2 : Dig 4294967296 ys) (hm : xs.length ≤ 70368744170000) (hm2 : ys.length ≤ 70368744170000) (hmm : (trimL xs).length + (trimL ys).length ≤ 35184372088000) :
    Calls Tryd.prog 28 #[.slice A xs.length c, .slice A2 ys.length c2] w fun e w' => ∃ zs A' c', e = .returned (.slice A' zs.length c') ∧ Num 4294967296 zs (val 4294967296 xs * val 4294967296 ys) ∧ Res w' w.heap.size 36 A' c' (u32s zs) ∧ Below w.heap.size w w' := by
  have hn1 := Num.of_trim hd
  have hn2 := Num.of_trim hd2
  obtain ⟨m, hmv⟩ : ∃ m, m = val 4294967296 xs := ⟨_, rfl⟩
  obtain ⟨n, hnv⟩ : ∃ n, n = val 4294967296 ys := ⟨_, rfl⟩
  rw [← hmv] at hn1
  rw [← hnv] at hn2
  rw [← hmv, ← hnv]
  have HA := Lib.hid (rnorm_any A c xs w B hr hB (by omega))
  have HB := Lib.hid (fun W (hW : Below w.heap.size w W) => rnorm_any A2 c2 ys W B (hr2.below (hW.mono hB)) (Nat.le_trans hB hW.size) (by omega))
  obtain ⟨ps, hps⟩ : ∃ ps, ps = trimL xs := ⟨_, rfl⟩
  obtain ⟨qs, hqs⟩ : ∃ qs, qs = trimL ys := ⟨_, rfl⟩
  rw [← hps] at hn1 hmm HA
  rw [← hqs] at hn2 hmm HB
  have hdp := hn1.1
  have hdq := hn2.1
  have Hm : Hid (val 4294967296 ps = m) := hn1.2.2
  have Hn : Hid (val 4294967296 qs = n) := hn2.2.2
  clear hps hqs hmv hnv hn1 hn2 hr hr2
  go_enter Tryd.func28, Tryd.ntmps28
  go_wp2_with fail
  refine HA.out.mono ?_
  rintro e w1 ⟨A1, c1, rfl, hres1, hb1⟩
  go_wp2_with fail
  refine (HB.out w1 hb1).mono ?_
  rintro e w2 ⟨A3, c3, rfl, hres2, hb2⟩
  have hr1 : Rd w2 w2.heap.size A1 (u32s ps) := (hres1.below hb2 (Nat.le_refl _)).rd
  have hr3 : Rd w2 w2.heap.size A3 (u32s qs) := hres2.rd
  have hB2 := hb1.trans (hb2.mono hb1.size)
  clear HA HB hres1 hres2 hb1 hb2
  go_wp2_with fail
  go_loopw [5, 6] (fun ov iv wr => ∃ (k : Nat) (os : List Nat) (A4 : Option Addr) (c4 : Nat), k ≤ qs.length ∧ iv = .int .i64 ((k : Int) - 1) ∧ ov = .slice A4 os.length c4 ∧ Num 4294967296 os (m * val 4294967296 (qs.drop k)) ∧ Rd wr wr.heap.size A4 (u32s os) ∧ Below w2.heap.size w2 wr) (fun _ iv _ => (intOf iv + 1).toNat)
  case atStart => exact ⟨qs.length, [], none, 0, Nat.le_refl _, rfl, rfl, by simp [val]; exact Num.zero_ _, Rd.nil_, Below.refl _ _⟩
  case round =>
    obtain ⟨k, os, A4, c4, hk, rfl, rfl, hnum, hro, hbel⟩ := hrel
    have hw2s := hB2.size
    rcases k with _ | k
    · go_wp2_with fail
      have hol : os.length ≤ 35184372088000 := by
        have := hnum.len_le9 (N := ps.length + qs.length) (by rw [List.drop_zero, ← Hm.out]; exact prod_lt hdp hdq (by omega))
        omega
      refine (rnorm_any A4 c4 os wr _ hro (Nat.le_refl _) (by omega)).mono ?_
      rintro e w3 ⟨A', c', rfl, hres, hb⟩
      have hwr := hbel.size
      go_wp2_with fail
      go_ret
      refine ⟨trimL os, A', c', rfl, ?_, hres.mono (by omega), hB2.trans ((hbel.mono hw2s).trans (hb.mono (by omega)))⟩
      rw [hnum.2.1]
      rw [List.drop_zero, Hn.out] at hnum
      exact hnum
    · rw [show ((k + 1 : Nat) : Int) - 1 = (k : Int) from by omega]
      have hkq : k < qs.length := by omega
      obtain ⟨b2, off2, rfl, hb2, hy⟩ := hr3.at32 hkq
      have hy := (hbel.cell (p := ⟨b2, off2 + k, none⟩) hb2).trans hy
      have hyd := hdq.at_ k hkq
      have hwr := hbel.size
      have hol : os.length ≤ 35184372088000 := by
        have := hnum.len_le9 (N := ps.length + (qs.drop (k + 1)).length) (by rw [← Hm.out]; exact prod_lt hdp (hdq.drop_ _) (by omega))
        rw [List.length_drop] at this
        omega
      have hpl : ps.length ≤ 35184372088000 := by omega
      obtain ⟨y, hye⟩ : ∃ y, y = qs[k] := ⟨_, rfl⟩
      rw [← hye] at hy hyd
      have hvd := drop_val (b := 4294967296) hkq
      rw [← hye] at hvd
      have Hsh : Hid (∀ W, Below wr.heap.size wr W → Calls Tryd.prog 47 #[.slice A4 os.length c4, .int .u32 0] W fun e w' => ∃ zs A' c', e = .returned (.slice A' zs.length c') ∧ Num 4294967296 zs (4294967296 * (m * val 4294967296 (qs.drop (k + 1)))) ∧ Res w' W.heap.size 36 A' c' (u32s zs) ∧ Below W.heap.size W w') := fun W hW => by
        have h9 := rshift_any A4 c4 os 0 W wr.heap.size (hro.below hW) hW.size hnum.1 (by omega) (by omega)
        rw [hnum.2.2, Nat.zero_add] at h9
        exact h9
      have Hsm : Hid (∀ W, Below wr.heap.size wr W → Calls Tryd.prog 46 #[.slice A1 ps.length c1, .int .u32 (y : Int)] W fun e w' => ∃ zs A' c', e = .returned (.slice A' zs.length c') ∧ Num 4294967296 zs (m * y) ∧ Res w' W.heap.size 36 A' c' (u32s zs) ∧ Below W.heap.size W w') := fun W hW => by
        have h9 := rsmall_any A1 c1 ps y W wr.heap.size (((hr1.below hbel).mono hwr).below hW) hW.size hdp hyd (by omega)
        rw [Hm.out] at h9
        exact h9
      have Hvd : Hid (4294967296 * (m * val 4294967296 (qs.drop (k + 1))) + m * y = m * val 4294967296 (qs.drop k)) := by
        show _ = _
        rw [hvd, Nat.mul_add, ← Nat.mul_assoc, Nat.mul_comm 4294967296 m, Nat.mul_assoc, Nat.add_comm]
      have hsl : ∀ zs, Num 4294967296 zs (4294967296 * (m * val 4294967296 (qs.drop (k + 1)))) → zs.length ≤ 35184372088001 := fun zs hz => by
        have h1 : m * val 4294967296 (qs.drop (k + 1)) < 4294967296 ^ (ps.length + (qs.drop (k + 1)).length) := by rw [← Hm.out]; exact prod_lt hdp (hdq.drop_ _) (by omega)
        have h2 := hz.len_le9 (N := ps.length + (qs.drop (k + 1)).length + 1) (by
          rw [Nat.pow_succ, Nat.mul_comm (4294967296 ^ _)]
          exact Nat.mul_lt_mul_of_pos_left h1 (by omega))
        rw [List.length_drop] at h2
        omega
      have hml : ∀ zs, Num 4294967296 zs (m * y) → zs.length ≤ 35184372088001 := fun zs hz => by
        have h1 : m * y < 4294967296 ^ (ps.length + 1) := by
          rw [← Hm.out, Nat.pow_succ]
          exact Nat.mul_lt_mul_of_lt_of_le (val_lt _ ps hdp) (Nat.le_of_lt hyd) (by omega)
        have h2 := hz.len_le9 h1
        omega
      have Hsl : Hid (∀ zs, Num 4294967296 zs (4294967296 * (m * val 4294967296 (qs.drop (k + 1)))) → zs.length ≤ 35184372088001) := hsl
      have Hml : Hid (∀ zs, Num 4294967296 zs (m * y) → zs.length ≤ 35184372088001) := hml
      have hbw2 : b2 < wr.heap.size := by omega
      clear hye hvd hsl hml hnum
      go_upto_region 6 with (fail)
      go_region_held3 (fun W => W.cell? ⟨b2, off2 + k, none⟩ = some (.int .u32 (y : Int))) (first | go_keep | exact Hca.out | exact Hcb.out | exact Hcc.out) (first
        | (go_at_call 47; (with_reducible refine (Hsh.out _ (by first | exact Below.refl _ _ | exact (Below.refl _ _).drew | exact hBb | exact hBb.drew)).mono ?_); rintro e wa ⟨za, Aa, ca, rfl, hza, hra, hba⟩; have hBa : Below wr.heap.size wr wa := (by first | exact hba | exact (Below.refl _ _).drew.trans hba | exact hBb.trans (hba.mono hBb.size) | exact hBb.drew.trans (hba.mono hBb.size)); have Hca := Lib.hid (show wa.cell? ⟨b2, off2 + k, none⟩ = some (.int .u32 (y : Int)) from (hBa.cell (p := ⟨b2, off2 + k, none⟩) hbw2).trans hy); have hla := Hsl.out _ hza)
        | (go_at_call 46; (with_reducible refine (Hsm.out _ (by first | exact Below.refl _ _ | exact (Below.refl _ _).drew | exact hBa | exact hBa.drew)).mono ?_); rintro e wb ⟨zb, Ab, cb, rfl, hzb, hrb, hbb⟩; have hBb : Below wr.heap.size wr wb := (by first | exact hbb | exact (Below.refl _ _).drew.trans hbb | exact hBa.trans (hbb.mono hBa.size) | exact hBa.drew.trans (hbb.mono hBa.size)); have Hcb := Lib.hid (show wb.cell? ⟨b2, off2 + k, none⟩ = some (.int .u32 (y : Int)) from (hBb.cell (p := ⟨b2, off2 + k, none⟩) hbw2).trans hy); have hlb := Hml.out _ hzb)
        | (go_at_call 25; refine (radd_any Aa Ab ca cb za zb _ _ (by first | exact hra.rd | exact (hra.below hbb (Nat.le_refl _)).rd | exact (hra.below (Below.refl _ _).drew (Nat.le_refl _)).rd | exact ((hra.below (Below.refl _ _).drew (Nat.le_refl _)).below hbb (Nat.le_refl _)).rd) (by first | exact hrb.rd | exact (hrb.below hba (Nat.le_refl _)).rd | exact (hrb.below (Below.refl _ _).drew (Nat.le_refl _)).rd | exact ((hrb.below (Below.refl _ _).drew (Nat.le_refl _)).below hba (Nat.le_refl _)).rd) (Nat.le_refl _) hza.1 hzb.1 (by omega) (by omega)).mono ?_; rintro e wc ⟨zc, Ac, cc, rfl, hzc, hrc, hbc⟩; have hBc : Below wr.heap.size wr wc := (by first | exact hBa.trans (hbc.mono hBa.size) | exact hBb.trans (hbc.mono hBb.size) | exact hBa.drew.trans (hbc.mono hBa.size) | exact hBb.drew.trans (hbc.mono hBb.size)); have Hcc := Lib.hid (show wc.cell? ⟨b2, off2 + k, none⟩ = some (.int .u32 (y : Int)) from (hBc.cell (p := ⟨b2, off2 + k, none⟩) hbw2).trans hy)))
      all_goals
        go_wp2_with fail
        go_roundw
        case rel =>
          have hv := hzc
          rw [hza.2.2, hzb.2.2, Hvd.out] at hv
          exact ⟨k, zc, Ac, cc, by omega, by go_num, rfl, hv, hrc.rd, hbel.trans (hBc.mono hwr)⟩
        case measure => simp [intOf]
end
section
open Go.RowKit

theorem bitsOf_half (x : Nat) (h : 0 < x) : bitsOf x = bitsOf (x / 2) + 1 := by
  unfold bitsOf
  rw [if_neg (by omega)]
  by_cases h1 : x / 2 = 0
  · rw [if_pos h1]
    have : x = 1 := by omega
    subst this
    decide
  · rw [if_neg h1]
    have e : Nat.log2 x = Nat.log2 (x / 2) + 1 := by
      have a1 : Nat.log2 (x / 2) + 1 ≤ Nat.log2 x := by
        refine (Nat.le_log2 (by omega)).2 ?_
        have := (Nat.le_log2 h1).1 (Nat.le_refl _)
        rw [Nat.pow_succ]; omega
      have a2 : Nat.log2 x < Nat.log2 (x / 2) + 1 + 1 := by
        refine (Nat.log2_lt (by omega)).2 ?_
        have := (Nat.log2_lt h1).1 (Nat.lt_succ_self _)
        rw [Nat.pow_succ]; omega
      omega
    omega

set_option maxHeartbeats 400000 in
theorem rlen_any (A : Option Addr) (c : Nat) (xs : List Nat) (w : World) (B : Nat) (hr : Rd w B A (u32s xs)) (hB : B ≤ w.heap.size) (hd : Dig 4294967296 xs) (hm : xs.length ≤ 70368744177664) :
    Calls Tryd.prog 8 #[.slice A xs.length c] w fun e w' => e = .returned (.int .i64 (bitsOf (val 4294967296 xs) : Nat)) ∧ Below w.heap.size w w' := by
  have hn := Num.of_trim hd
  have hl := trimL_length_le xs
  go_enter Tryd.func8, Tryd.ntmps8
  go_wp2_with fail
  refine (rnorm_any A c xs _ B hr hB hm).mono ?_
  rintro e w1 ⟨A1, c1, rfl, hres, hb⟩
  obtain ⟨ps, hps⟩ : ∃ ps, ps = trimL xs := ⟨_, rfl⟩
  rw [← hps] at hn hl hres ⊢
  have hrd := hres.rd
  by_cases h0 : ps = []
  · have hl0 : (ps.length : Int) = 0 := by rw [h0]; rfl
    have hv : bitsOf (val 4294967296 xs) = 0 := by rw [← hn.2.2, h0]; rfl
    have Hv := Lib.hid hv
    clear hv h0 hn hres hrd hps
    go_wp2
    go_ret
    exact ⟨by rw [Hv.out]; rfl, hb⟩
  · have hne : ps.length ≠ 0 := fun e => h0 (List.eq_nil_of_length_eq_zero e)
    have hv := bitsOf_val hn h0 (by omega)
    obtain ⟨b, off, rfl, hbB, hcell⟩ := hrd (by intro e; have := u32s_length ps; rw [e] at this; simp at this; omega)
    obtain ⟨k, hk⟩ : ∃ k, ps.length = k + 1 := ⟨ps.length - 1, by omega⟩
    have hcl := hcell k _ (u32s_at (by omega))
    have hx := hn.1.at_ k (by omega)
    have hv2 : bitsOf (val 4294967296 xs) = 32 * k + bitsOf (ps[k]) := by rw [hv]; simp [hk]
    obtain ⟨x, hxe⟩ : ∃ x, x = ps[k] := ⟨_, rfl⟩
    rw [← hxe] at hcl hx hv2
    have hkb : k < 70368744177664 := by omega
    have Hv2 := Lib.hid hv2
    have t0 : (((k : Int) + 1) == 0) = false := by simp; omega
    rw [hk]
    clear hv hv2 hn hcell hxe h0 hne hk hres hrd hps
    go_wp2
    go_loop [3, 4] (fun nv xv => ∃ (i y : Nat), nv = .int .i64 (32 * (k : Int) + (i : Int)) ∧ xv = .int .u32 (y : Int) ∧ y ≤ x ∧ i + bitsOf y = bitsOf x ∧ i ≤ 32) (fun _ xv => (intOf xv).toNat)
    case atStart => exact ⟨0, x, by go_num, rfl, Nat.le_refl _, by omega, by omega⟩
    case round =>
      obtain ⟨i, y, rfl, rfl, hyx, hiy, hi⟩ := hrel
      have hx32 : bitsOf x ≤ 32 := by rw [← bitLen_val _ (by omega)]; exact Lib.bitLen_le _ 32 (by omega) hx
      rcases Nat.eq_zero_or_pos y with h0 | h0
      · subst h0
        have hie : i = bitsOf x := by simpa [bitsOf] using hiy
        have Hie := Lib.hid hie
        clear hiy hie hx32
        go_wp2
        go_ret
        refine ⟨?_, hb⟩
        rw [Hv2.out, ← Hie.out]
        simp
      · have hh := bitsOf_half y h0
        have hiy2 : i + 1 + bitsOf (y / 2) = bitsOf x := by omega
        have hi2 : i + 1 ≤ 32 := by omega
        have Hiy2 := Lib.hid hiy2
        clear hiy hh hiy2
        go_wp2
        go_round
        case rel => exact ⟨i + 1, y / 2, by go_num, by go_num, by omega, Hiy2.out, hi2⟩
        case measure => simp [intOf]; omega
end
section
open Go.RowKit

/-- An append onto a row that is known whole, as one step of a region that draws. -/
theorem step_app {P : Program} {ops : Array Oper} {o : Oper} {a : Act} {w : World} {K : Act → World → Prop} {Q : Exit → Act → World → Prop} {E : Prop} (hgd : o.guard = none) (d s : Operand) (t : TypeId)
    (ho : o.op = .call { callee := .builtin .append, args := #[d, s], argTypes := #[t, t] }) (e : TypeId) (i : TypeInfo) (z : Value) (bytes : Nat) (ht : P.underlying t = some (.slice e)) (hi : P.info? e = some i) (hz : i.zero = some z)
    (hsize : i.size = 1) (hby : i.bytes = bytes) (hzs : z.cells.size = 1) (g n : Nat) (A : Option Addr) (m c : Nat) (hd : a.eval d = .slice (some ⟨g, 0, none⟩) n n) (hs : a.eval s = .slice A m c)
    (xs news : List Value) (B : Nat) (hb : Blk w g e xs) (hn : xs.length = n) (hr : Rd w B A news) (hm : news.length = m) (h1 : ∀ u ∈ news, u.oneCell' = true) (h63 : n + m ≤ 281474976710656) (hbytes : (n + m) * bytes ≤ 140737488355328)
    (h : ∀ v' w', w'.ownsRow g e 1 v' (n + m) (xs ++ news) → w.grownBy w' (some g) → K (a.put o.dst v') w') :
    if Region.wanted o (yielded ops a.tmps) = true then Oper.wp P o a w K Q else E := by
  have hw : Region.wanted o (yielded ops a.tmps) = true := by simp [Region.wanted, hgd]
  rw [if_pos hw]
  have hown : w.ownsRow g e 1 (.slice (some ⟨g, 0, none⟩) n n) n xs :=
    ⟨by omega, .inr ⟨g, n, xs.toArray, rfl, Nat.le_refl _, hb, Nat.le_refl _, by unfold maxLen; omega, by simp [hn], by simp [← hn]⟩⟩
  obtain ⟨v', w', hrun, h2, h3⟩ := run_app (P := P) w g t o.type e i z bytes ht hi hz hsize hby hzs g n n xs hown A m c B news hr hm h1 (by unfold maxLen; omega) hbytes (by have := hb.lt; omega)
  unfold Oper.wp
  simp [execOp, ho, resolve, invoke, builtin, hd, hs, hrun, Result.andThen]
  exact h v' w' h2 h3

set_option maxRecDepth 20000 in
set_option maxHeartbeats 1600000 in
theorem rleft_any (A : Option Addr) (c : Nat) (xs : List Nat) (n d s : Nat) (w : World) (B : Nat) (hr : Rd w B A (u32s xs)) (hB : B ≤ w.heap.size) (hd : Dig 4294967296 xs) (hn : n = 32 * d + s) (hs : s < 32) (hm : d + (trimL xs).length ≤ 35184372088000) (hm0 : xs.length ≤ 70368744170000) :
    Calls Tryd.prog 26 #[.slice A xs.length c, .int .i64 (n : Int)] w fun e w' => ∃ zs A' c', e = .returned (.slice A' zs.length c') ∧ Num 4294967296 zs (val 4294967296 xs * 2 ^ n) ∧ Res w' w.heap.size 36 A' c' (u32s zs) ∧ Below w.heap.size w w' := by
  have hl := trimL_length_le xs
  have hmk := fun W => mk32 d (by omega) W
  have q1 : (n : Int) / 32 = (d : Int) := by omega
  have q2 : (n : Int) % 32 = (s : Int) := by omega
  have nb : n < 9223372036854775807 := by omega
  have Hn := Lib.hid hn
  have hwr : IntKind.i64.wrap (d : Int) = (d : Int) := by rw [IntKind.wrap_i64]; omega
  clear hn
  go_enter Tryd.func26, Tryd.ntmps26
  go_wp2_with fail
  obtain ⟨i0, hi, hz0, hz1, hz2⟩ := info_parts Tryd.info32
  have hnc : ∀ W : World, Below w.heap.size w W → Calls Tryd.prog 29 #[.slice A xs.length c] W fun e w' => ∃ A' c', e = .returned (.slice A' (trimL xs).length c') ∧ Res w' W.heap.size 36 A' c' (u32s (trimL xs)) ∧ Below W.heap.size W w' :=
    fun W hW => rnorm_any A c xs W B (hr.below (hW.mono hB)) (Nat.le_trans hB hW.size) (by omega)
  have Hnc := Lib.hid hnc
  have hl9 : (u32s (List.replicate d 0)).length = d := by simp [u32s]
  have Hl9 := Lib.hid hl9
  have hsum : d + (trimL xs).length ≤ 35184372088000 := by omega
  have hbk : ∀ W : World, Blk (W.alloc (.cells (Array.replicate d (Value.int .u32 0)) 36)) W.heap.size 36 (u32s (List.replicate d 0)) := fun W => Blk.new_ (by simp [u32s])
  have Hbk := Lib.hid hbk
  clear hnc hl9 hbk
  go_cut [5] (fun v wc => ∃ A1 c1, v = .slice A1 (d + (trimL xs).length) c1 ∧ Rd wc wc.heap.size A1 (u32s (List.replicate d 0 ++ trimL xs)) ∧ Below w.heap.size w wc)
  case first =>
    go_region_held3 (fun _ => True) (exact trivial) (first
      | (go_at_call 29; refine (Hnc.out _ (by first | exact (Below.refl _ _).drew | exact ((Below.refl _ _).alloc (Nat.le_refl _) _).drew)).mono ?_; rintro e w1 ⟨A1, c1, rfl, hres, hb⟩)
      | (refine step_app rfl (.tmp 8) (.tmp 10) 23 rfl 36 i0 (.int .u32 0) 4 Tryd.underlying23 hi hz0 hz1 hz2 rfl _ d _ _ _ rfl rfl (u32s (List.replicate d 0)) (u32s (trimL xs)) _ (by first | exact Hbk.out _ | exact (Hbk.out w).drew.below hb (by show w.heap.size < (w.alloc _).heap.size; rw [World.size_alloc]; omega)) Hl9.out (by first | exact hres.rd | exact hres.rd.below ((Below.refl _ _).alloc (Nat.le_refl _) _)) (u32s_length _) (one_u32s _) (by omega) (by omega) ?_; intro v' w2 hown hgr))
    all_goals
      go_wp2
      go_meet
      obtain ⟨A9, c9, rfl, hlc9, hrd9, _⟩ := own_res hown (by omega)
      refine ⟨A9, c9, rfl, ?_, ?_⟩
      · have e9 : u32s (List.replicate d 0 ++ trimL xs) = u32s (List.replicate d 0) ++ u32s (trimL xs) := by simp [u32s]
        rw [e9]; exact hrd9
      · have hsz1 := hb.size
        first
          | (have e1 : Below w.heap.size w w1 := ((Below.refl _ _).alloc (Nat.le_refl _) _).drew.trans (hb.mono (by show w.heap.size ≤ (w.alloc _).heap.size; rw [World.size_alloc]; omega))
             exact e1.trans (below_grown hgr (Nat.le_refl _) e1.size))
          | (have e1 : Below w.heap.size w w1 := (Below.refl _ _).drew.trans hb
             exact (e1.alloc e1.size _).trans (below_grown hgr e1.size (by rw [World.size_alloc]; have := e1.size; omega)))
  case rest =>
    obtain ⟨A1, c1, rfl, hrd, hbel⟩ := hcut
    have hdl : Dig 4294967296 (List.replicate d 0 ++ trimL xs) := (Dig.zeros_ (by omega) _).append_ hd.trim_
    have hln : Hid ((List.replicate d 0 ++ trimL xs).length = d + (trimL xs).length) := by show _ = _; simp
    have hvl : val 4294967296 (List.replicate d 0 ++ trimL xs) * 2 ^ s = val 4294967296 xs * 2 ^ n := by
      rw [val_append, val_zeros, val_trim, Hn.out, Nat.pow_add, Nat.pow_mul, show (2 : Nat) ^ 32 = 4294967296 from rfl, List.length_replicate, Nat.zero_add, Nat.mul_comm (4294967296 ^ d), Nat.mul_assoc]
    have h2s : 2 ^ s < 2 ^ 32 := Nat.pow_lt_pow_right (by omega) hs
    have e9 : ((2 : Int) ^ s % 4294967296) = ((2 ^ s : Nat) : Int) := by
      rw [show ((2 : Int) ^ s) = ((2 ^ s : Nat) : Int) from by simp]
      exact Int.emod_eq_of_lt (Int.natCast_nonneg _) (Int.ofNat_lt.2 h2s)
    obtain ⟨ts, hts⟩ : ∃ ts, ts = 2 ^ s := ⟨_, rfl⟩
    rw [← hts] at h2s e9 hvl
    have hts32 : ts < 4294967296 := by omega
    have Hvl := Lib.hid hvl
    clear hvl hts h2s
    go_wp2_with fail
    rw [← hln.out]
    refine (rsmall_any A1 c1 _ ts _ _ hrd (Nat.le_refl _) hdl hts32 (by have := hln.out; omega)).mono ?_
    rintro e w5 ⟨zs, A7, c7, rfl, hnz, hres, hb5⟩
    go_wp2
    go_ret
    rw [Hvl.out] at hnz
    exact ⟨zs, A7, c7, rfl, hnz, hres.mono hbel.size, hbel.trans (hb5.mono hbel.size)⟩
end
section
open Go.RowKit

section
variable {w w' : World} {A A2 : Option Addr} {c c2 n k K J : Nat} {xs ys : List Nat}
theorem Hv.normP (h : Hv w A c xs n K) (hK : K ≤ 67108864) : Calls Tryd.prog 29 #[.slice A xs.length c] w fun e w' => PwOut w w' n e := by
  have hl1 := h.len
  refine (rnorm_any A c xs w w.heap.size h.rd (Nat.le_refl _) (by omega)).mono ?_
  rintro e w' ⟨A', c', rfl, hr, hb⟩
  exact ⟨_, A', c', rfl, by rw [← h.val_]; exact Num.of_trim h.dig, hr, hb⟩
theorem Hv.addP (h : Hv w A c xs n K) (h2 : Hv w A2 c2 ys k J) (hK : K ≤ 67108864) (hJ : J ≤ 67108864) : Calls Tryd.prog 25 #[.slice A xs.length c, .slice A2 ys.length c2] w fun e w' => PwOut w w' (n + k) e := by
  have hl1 := h.len
  have hl2 := h2.len
  have h9 := radd_any A A2 c c2 xs ys w w.heap.size h.rd h2.rd (Nat.le_refl _) h.dig h2.dig (by omega) (by omega)
  rwa [h.val_, h2.val_] at h9
theorem Hv.rmulP (h : Hv w A c xs n K) (h2 : Hv w A2 c2 ys k J) (hK : K ≤ 67108864) (hJ : J ≤ 67108864) : Calls Tryd.prog 28 #[.slice A xs.length c, .slice A2 ys.length c2] w fun e w' => PwOut w w' (n * k) e := by
  have hl1 := h.len
  have hl2 := h2.len
  have t1 := trimL_length_le xs
  have t2 := trimL_length_le ys
  have h9 := rmul_any A A2 c c2 xs ys w w.heap.size h.rd h2.rd (Nat.le_refl _) h.dig h2.dig (by omega) (by omega) (by omega)
  rwa [h.val_, h2.val_] at h9
theorem Hv.cmpP (h : Hv w A c xs n K) (h2 : Hv w A2 c2 ys k J) (hK : K ≤ 67108864) (hJ : J ≤ 67108864) : Calls Tryd.prog 27 #[.slice A xs.length c, .slice A2 ys.length c2] w fun e w' => e = .returned (.int .i64 (cmpN n k)) ∧ w = w' := by
  have hl1 := h.len
  have hl2 := h2.len
  have h9 := rcmp_any A A2 c c2 xs ys w w.heap.size h.rd h2.rd h.dig h2.dig (by omega) (by omega)
  rwa [h.val_, h2.val_] at h9
theorem Hv.lenP (h : Hv w A c xs n K) (hK : K ≤ 67108864) : Calls Tryd.prog 8 #[.slice A xs.length c] w fun e w' => e = .returned (.int .i64 (bitsOf n : Nat)) ∧ Below w.heap.size w w' := by
  have hl1 := h.len
  have h9 := rlen_any A c xs w w.heap.size h.rd (Nat.le_refl _) h.dig (by omega)
  rwa [h.val_] at h9
theorem Hv.leftP (h : Hv w A c xs n K) (hK : K ≤ 67108864) (m : Nat) (hm : m ≤ 17179869184) : Calls Tryd.prog 26 #[.slice A xs.length c, .int .i64 (m : Int)] w fun e w' => PwOut w w' (n * 2 ^ m) e := by
  have hl1 := h.len
  have t1 := trimL_length_le xs
  have h9 := rleft_any A c xs m (m / 32) (m % 32) w w.heap.size h.rd (Nat.le_refl _) h.dig (by omega) (by omega) (by omega) (by omega)
  rwa [h.val_] at h9
end
theorem PwOut.go {w w' : World} {n K : Nat} {e : Ending} (h : PwOut w w' n e) (hn : n < 4294967296 ^ K) : ∃ zs A' c', e = .returned (.slice A' zs.length c') ∧ Hv w' A' c' zs n K ∧ Num 4294967296 zs n ∧ Res w' w.heap.size 36 A' c' (u32s zs) ∧ Below w.heap.size w w' := by
  obtain ⟨zs, A', c', rfl, hz, hr, hb⟩ := h
  exact ⟨zs, A', c', rfl, Hv.of hz hr hn, hz, hr, hb⟩
theorem bits_lt {n : Nat} : n < 2 ^ bitsOf n := by
  unfold bitsOf
  split
  · subst_vars; decide
  · exact Nat.lt_log2_self
theorem bits_ge {n : Nat} (h : 0 < n) : 1 ≤ bitsOf n ∧ 2 ^ (bitsOf n - 1) ≤ n := by
  unfold bitsOf
  rw [if_neg (by omega)]
  exact ⟨by omega, Nat.log2_self_le (by omega)⟩
theorem bits_le_iff {n b : Nat} : bitsOf n ≤ b ↔ n < 2 ^ b := by
  constructor
  · intro h
    exact Nat.lt_of_lt_of_le bits_lt (Nat.pow_le_pow_right (by omega) h)
  · intro h
    rcases Nat.eq_zero_or_pos n with h0 | h0
    · subst h0; exact Nat.zero_le _
    · obtain ⟨h1, h2⟩ := bits_ge h0
      rcases Nat.lt_or_ge b (bitsOf n) with g | g
      · have : 2 ^ b ≤ 2 ^ (bitsOf n - 1) := Nat.pow_le_pow_right (by omega) (by omega)
        omega
      · exact g
theorem bits_limbs {n K : Nat} (h : n < 4294967296 ^ K) : bitsOf n ≤ 32 * K := by
  rw [bits_le_iff, Nat.pow_mul]
  exact h
end
end Go.Proofs.YtanlejlmckdeiaaDoor
