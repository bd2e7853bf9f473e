/- The contract of the reference's Sqrt. Conditions: at most 2^24 limbs. -/
import Derived.Test.YtanlejlmckdeiaaDoorPkNp18
import Derived.Test.YtanlejlmckdeiaaDoorPkNp19
namespace Go.Proofs.YtanlejlmckdeiaaDoor
open Go.RowKit

/-- Between two bits of the root. -/
structure Rt (a s j : Nat) : Prop where
  le : s * s ≤ a
  lt : a < (s + 2 ^ j) * (s + 2 ^ j)
theorem Rt.start (a : Nat) : Rt a 0 (bitsOf a / 2 + 2) := ⟨by simp, by
  have h1 : a < 2 ^ bitsOf a := bits_lt
  have h2 : 2 ^ bitsOf a ≤ 2 ^ (bitsOf a / 2 + 2 + (bitsOf a / 2 + 2)) := Nat.pow_le_pow_right (by omega) (by omega)
  rw [Nat.pow_add] at h2
  simpa using Nat.lt_of_lt_of_le h1 h2⟩
theorem Rt.yes {a s i : Nat} (h : Rt a s (i + 1)) (hle : (s + 2 ^ i) * (s + 2 ^ i) ≤ a) : Rt a (s + 2 ^ i) i := ⟨hle, by
  have := h.lt
  rw [Nat.pow_succ, show s + 2 ^ i * 2 = s + 2 ^ i + 2 ^ i from by omega] at this
  exact this⟩
theorem Rt.no {a s i : Nat} (h : Rt a s (i + 1)) (hlt : a < (s + 2 ^ i) * (s + 2 ^ i)) : Rt a s i := ⟨h.le, hlt⟩
theorem Rt.root {a s : Nat} (h : Rt a s 0) : IsRoot a s := ⟨h.le, h.lt⟩
theorem le_sq {s a : Nat} (h : s * s ≤ a) : s ≤ a := by
  rcases Nat.eq_zero_or_pos s with h0 | h0
  · omega
  · exact Nat.le_trans (Nat.le_mul_of_pos_left _ h0) h

set_option maxHeartbeats 6400000 in
theorem rsqrt_any {A : Option Addr} {c : Nat} {xs : List Nat} {a K : Nat} {w : World} (h : Hv w A c xs a K) (hK : K ≤ 16777216) :
    Calls Tryd.prog 7 #[.slice A xs.length c] w fun e w' => ∃ s, IsRoot a s ∧ PwOut w w' s e := by
  have hbl := bits_limbs h.lt
  have HH := Lib.hid h
  have LN := Lib.hid (h.lenP (by omega))
  have RS := Lib.hid (Rt.start a)
  obtain ⟨bl, hb⟩ : ∃ bl, bl = bitsOf a := ⟨_, rfl⟩
  rw [← hb] at hbl LN RS
  clear h hb
  go_enter Tryd.func7, Tryd.ntmps7
  go_wp2_with (go_at_call 8; (with_reducible refine LN.out.mono ?_); rintro e w1 ⟨rfl, hb1⟩)
  obtain ⟨h0, hh0⟩ : ∃ h0, h0 = bl / 2 + 2 := ⟨_, rfl⟩
  rw [← hh0] at RS
  have e0 : (bl : Int) / 2 + 1 = (h0 : Int) - 1 := by omega
  have hl0 : h0 ≤ 16 * K + 2 := by omega
  rw [e0]
  clear hh0 LN e0
  go_loopw [3, 4, 5] (fun sv kv _ wr => ∃ (j s : Nat) (zs : List Nat) (As : Option Addr) (cs : Nat), j ≤ h0 ∧ kv = .int .i64 ((j : Int) - 1) ∧ sv = .slice As zs.length cs ∧ Rt a s j ∧ Num 4294967296 zs s ∧ Res wr w.heap.size 36 As cs (u32s zs) ∧ Below w.heap.size w wr) (fun _ kv _ _ => (intOf kv + 1).toNat)
  case atStart => exact ⟨h0, 0, [], none, 0, Nat.le_refl _, rfl, rfl, RS.out, Num.zero_ _, Res.none_, hb1⟩
  case round =>
    obtain ⟨j, s, zs, As, cs, hj, rfl, rfl, hrt, hz, hr, hbel⟩ := hrel
    clear hb1 RS
    cases j with
    | zero =>
      have NM : Hid (Calls Tryd.prog 29 #[.slice As zs.length cs] wr fun e w' => PwOut wr w' s e) := (Hv.of (K := K) hz hr (Nat.lt_of_le_of_lt (le_sq hrt.le) HH.out.lt)).normP (by omega)
      have HR := Lib.hid hrt
      have KB := Lib.hid hbel
      clear hz hr hrt hbel
      go_wp2_with fail
      refine NM.out.mono ?_
      rintro e w2 ⟨zs2, A2, c2, rfl, hz2, hr2, hb2⟩
      go_wp2_with fail
      go_ret
      exact ⟨s, HR.out.root, zs2, A2, c2, rfl, hz2, hr2.mono KB.out.size, KB.out.trans (hb2.mono KB.out.size)⟩
    | succ i =>
      have e1 : ((i + 1 : Nat) : Int) - 1 = (i : Int) := by omega
      rw [e1]
      have hsl : s < 4294967296 ^ K := Nat.lt_of_le_of_lt (le_sq hrt.le) HH.out.lt
      have h2i : 2 ^ i < 4294967296 ^ (K + 1) := by
        rw [show (4294967296 : Nat) = 2 ^ 32 from rfl, ← Nat.pow_mul]
        exact Nat.pow_lt_pow_right (by omega) (by omega)
      have htl : s + 2 ^ i < 4294967296 ^ (K + 2) := by
        have h3 : 4294967296 ^ K ≤ 4294967296 ^ (K + 1) := Nat.pow_le_pow_right (by omega) (by omega)
        rw [Nat.pow_succ 4294967296 (K + 1)]
        omega
      obtain ⟨t, ht⟩ : ∃ t, t = s + 2 ^ i := ⟨_, rfl⟩
      rw [← ht] at htl
      have hql : t * t < 4294967296 ^ (K + 2 + (K + 2)) := by
        rw [Nat.pow_add]; exact Nat.mul_lt_mul'' htl htl
      obtain ⟨q, hq⟩ : ∃ q, q = t * t := ⟨_, rfl⟩
      rw [← hq] at hql
      have LF : Hid (∀ (B : Nat) (W : World) (A1 : Option Addr) (c1 : Nat), Res W B 36 A1 c1 (u32s [1]) → Calls Tryd.prog 26 #[.slice A1 1 c1, .int .i64 (i : Int)] W fun e w' => PwOut W w' (2 ^ i) e) := fun B W A1 c1 h1 => by
        have := (Hv.of (K := 1) num_one h1 (by decide)).leftP (by omega) i (by omega)
        rwa [Nat.one_mul] at this
      have AD : Hid (∀ (zp : List Nat) (Ap : Option Addr) (cp B : Nat) (W : World), Num 4294967296 zp (2 ^ i) → Res W B 36 Ap cp (u32s zp) → Below wr.heap.size wr W → Calls Tryd.prog 25 #[.slice As zs.length cs, .slice Ap zp.length cp] W fun e w' => PwOut W w' t e) := fun zp Ap cp B W n1 r1 hW => by
        rw [ht]
        exact ((Hv.of (K := K) hz hr hsl).next hW).addP (Hv.of (K := K + 1) n1 r1 h2i) (by omega) (by omega)
      have MU : Hid (∀ (zt : List Nat) (At : Option Addr) (ct B : Nat) (W : World), Num 4294967296 zt t → Res W B 36 At ct (u32s zt) → Calls Tryd.prog 28 #[.slice At zt.length ct, .slice At zt.length ct] W fun e w' => PwOut W w' q e) := fun zt At ct B W n1 r1 => by
        rw [hq]
        exact (Hv.of (K := K + 2) n1 r1 htl).rmulP (Hv.of (K := K + 2) n1 r1 htl) (by omega) (by omega)
      have CM : Hid (∀ (zq : List Nat) (Aq : Option Addr) (cq B : Nat) (W : World), Num 4294967296 zq q → Res W B 36 Aq cq (u32s zq) → Below w.heap.size w W → Calls Tryd.prog 27 #[.slice Aq zq.length cq, .slice A xs.length c] W fun e w' => e = .returned (.int .i64 (cmpN q a)) ∧ W = w') := fun zq Aq cq B W n1 r1 hW =>
        (Hv.of (K := K + 2 + (K + 2)) n1 r1 hql).cmpP (HH.out.next hW) (by omega) (by omega)
      have HZ := Lib.hid hz
      have HR := Lib.hid hr
      have HRT := Lib.hid hrt
      have HT := Lib.hid ht
      have HQ := Lib.hid hq
      have KB := Lib.hid hbel
      obtain ⟨cm, hcm⟩ : ∃ cm, cm = cmpN q a := ⟨_, rfl⟩
      rw [← hcm] at CM
      have HCM := Lib.hid hcm
      clear hz hr hrt ht hq hbel hsl h2i htl hql hcm e1
      go_wp2_with fail
      refine (LF.out wr.heap.size _ _ _ (res_one wr (Nat.le_refl _))).mono ?_
      rintro e w2 ⟨zp, Ap, cp, rfl, n2, r2, hb2⟩
      have j2 : Below wr.heap.size wr w2 := ((Below.refl _ _).alloc (Nat.le_refl _) _).trans (hb2.mono (by simp))
      clear LF
      go_wp2_with fail
      refine (AD.out zp Ap cp _ w2 n2 r2 j2).mono ?_
      rintro e w3 ⟨zt, At, ct, rfl, n3, r3, hb3⟩
      have j3 : Below wr.heap.size wr w3 := j2.trans (hb3.mono j2.size)
      clear AD n2 r2 hb2
      go_wp2_with fail
      refine (MU.out zt At ct _ w3 n3 r3).mono ?_
      rintro e w4 ⟨zq, Aq, cq, rfl, n4, r4, hb4⟩
      have j4 : Below wr.heap.size wr w4 := j3.trans (hb4.mono j3.size)
      have k4 : Below w.heap.size w w4 := KB.out.trans (j4.mono KB.out.size)
      have r5 : Res w4 w.heap.size 36 At ct (u32s zt) := (r3.below hb4 (Nat.le_refl _)).mono (Nat.le_trans KB.out.size j2.size)
      have r6 : Res w4 w.heap.size 36 As cs (u32s zs) := HR.out.below j4 (Nat.le_refl _)
      clear MU r3 hb3 hb4
      by_cases hle : q ≤ a
      · have t1 : decide (cm ≤ 0) = true := by
          rw [HCM.out]; unfold cmpN; split
          · rfl
          · rw [if_neg (by omega)]; rfl
        have HN : Hid (Rt a t i) := by rw [HT.out]; exact HRT.out.yes (by rw [← HT.out, ← HQ.out]; exact hle)
        clear hle HCM
        go_wp2_with fail
        refine (CM.out zq Aq cq _ w4 n4 r4 k4).mono ?_
        rintro e w5 ⟨rfl, rfl⟩
        clear CM n4 r4
        go_wp2_with fail
        go_roundw
        case rel => exact ⟨i, t, zt, At, ct, by omega, by go_num, rfl, HN.out, n3, r5, k4⟩
        case measure => simp [intOf]
      · have t1 : decide (cm ≤ 0) = false := by
          rw [HCM.out]; unfold cmpN; rw [if_neg (by omega), if_pos (by omega)]; rfl
        have HN : Hid (Rt a s i) := HRT.out.no (by rw [← HT.out, ← HQ.out]; omega)
        clear hle HCM
        go_wp2_with fail
        refine (CM.out zq Aq cq _ w4 n4 r4 k4).mono ?_
        rintro e w5 ⟨rfl, rfl⟩
        clear CM n4 r4
        go_wp2_with fail
        go_roundw
        case rel => exact ⟨i, s, zs, As, cs, by omega, by go_num, rfl, HN.out, HZ.out, r6, k4⟩
        case measure => simp [intOf]
end Go.Proofs.YtanlejlmckdeiaaDoor
