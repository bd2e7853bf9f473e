/- The walk of the law NatShifts. Conditions: fewer limbs than any slice can have. -/
import Derived.Test.YtogkfpbapjjgfaaRefRight
namespace Go.Proofs.Ytogkfpbapjjgfaa
open Go.RowKit

/-- A slice that Lend handed out reads as the limbs. -/
theorem lent_rd {w : World} {g B : Nat} {t : TypeId} {xs : List Nat} (h : Blk w g t (u32s (lentL xs))) (hg : g < B) : Rd w B (some ⟨g, 1, none⟩) (u32s xs) :=
  Rd.of_blk h hg 1 (fun k v hv => by
    rw [Nat.add_comm]
    have hk : k < xs.length := by
      have := (List.getElem?_eq_some_iff.1 hv).1
      rwa [u32s_length] at this
    rw [u32s_at hk] at hv
    rw [u32s_at (by rw [lentL_length]; omega), ← hv]
    simp [lentL, List.getElem_append_left hk])
theorem lent_rd0 {w : World} {g B : Nat} {t : TypeId} {xs : List Nat} (h : Blk w g t (u32s (lentL xs))) (hg : g < B) : Rd w B (some ⟨g, 0, none⟩) (u32s (lentL xs)) :=
  Rd.of_blk h hg 0 (fun k v hv => by rw [Nat.zero_add]; exact hv)

set_option maxHeartbeats 1600000 in
theorem natShifts_any (A : Option Addr) (c : Nat) (xs : List Nat) (n : Int) (w : World) (hr : Rd w w.heap.size A (u32s xs)) (hd : Dig 4294967296 xs) (hc : xs.length ≤ c) (hm : xs.length ≤ 35184372088000) (hn : n ≤ 9223372036854775807) :
    Calls Try.prog 5 #[.slice A xs.length c, .int .i64 n] w fun e w' => e = .returned (.bool true) ∧ Below w.heap.size w w' := by
  go_enter Try.func5, Try.ntmps5
  go_wp2_with fail
  refine (lend_any A c xs _ _ hr (Nat.le_refl _) (by omega)).mono ?_
  rintro e w1 ⟨rfl, hblk, hb1⟩
  have hlt1 := hblk.lt
  go_wp2_with fail
  refine (left_any _ _ xs n _ w1.heap.size (lent_rd hblk hlt1) (Nat.le_refl _) hd (by omega) (by omega) hn).mono ?_
  rintro e w2 ⟨ls, A2, c2, rfl, hnl, hrl, hb2⟩
  have hblk2 := hblk.below hb2 hlt1
  obtain ⟨m, hmv⟩ : ∃ m, m = val 4294967296 xs := ⟨_, rfl⟩
  rw [← hmv] at hnl ⊢
  have Hmv := Lib.hid hmv
  obtain ⟨el, hel⟩ : ∃ el : Int, el = (if n < 0 then 1 else if m = 0 then 0 else if 67108864 < (bitsOf m : Int) + n then 4 else 0) := ⟨_, rfl⟩
  rw [← hel]
  have Hel := Lib.hid hel
  have Hnl := Lib.hid hnl
  clear hmv hel hnl
  go_wp2_with fail
  refine (right_any _ _ xs n _ w2.heap.size (lent_rd hblk2 hblk2.lt) (Nat.le_refl _) hd (by omega) (by omega) hn).mono ?_
  rintro e w3 ⟨rs, A3, c3, rfl, hnr, hrr, hb3⟩
  have hblk3 := hblk2.below hb3 hblk2.lt
  rw [← Hmv.out] at hnr
  obtain ⟨er, her⟩ : ∃ er : Int, er = (if n < 0 then 1 else 0) := ⟨_, rfl⟩
  rw [← her]
  have Her := Lib.hid her
  have Hnr := Lib.hid hnr
  clear her hnr
  have hrl3 := hrl.below hb3 (Nat.le_refl _)
  have s1 := hb1.size
  have s2 := hb2.size
  have s3 := hb3.size
  have hb13 := (hb1.trans (hb2.mono s1)).trans (hb3.mono (Nat.le_trans s1 s2))
  have hra3 := hr.below hb13
  go_wp2_with fail
  refine (kept_yes _ A (xs.length + 2) c xs _ w3.heap.size (lent_rd0 hblk3 hblk3.lt) (hra3.mono (by omega)) (by omega)).mono ?_
  rintro e w4 ⟨rfl, rfl⟩
  clear hblk hblk2 hblk3 hrl hb1 hb2 hb3
  rcases Int.lt_or_le n 0 with h0 | h0
  · have hel := Hel.out
    have her := Her.out
    have hnl := Hnl.out
    have hnr := Hnr.out
    rw [if_pos h0] at hel her hnl hnr
    subst hel her
    obtain rfl := (hnl.nil_iff (by omega)).2 rfl
    obtain rfl := (hnr.nil_iff (by omega)).2 rfl
    go_wp2_with fail
    refine (lives_any _).mono ?_
    rintro e w5 ⟨rfl, hb5⟩
    go_wp2
    go_ret
    exact ⟨rfl, hb13.trans (hb5.mono (by omega))⟩
  · obtain ⟨k, rfl⟩ := Int.eq_ofNat_of_zero_le h0
    have hel := Hel.out
    have her := Her.out
    have hnl := Hnl.out
    have hnr := Hnr.out
    rw [if_neg (by omega)] at hel her hnl hnr
    rw [Int.toNat_natCast] at hnl hnr
    have Hel2 := Lib.hid hel
    have Hnl2 := Lib.hid hnl
    have Hnr2 := Lib.hid hnr
    subst her
    clear hel hnl hnr Hel Her Hnl Hnr
    have hk32 : Hid (k = 32 * (k / 32) + k % 32) := by show _ = _; omega
    go_wp2_with fail
    refine (rright_any A c xs k (k / 32) (k % 32) _ w3.heap.size (hra3.mono (by omega)) (Nat.le_refl _) hd hk32.out (by omega) (by omega) (by omega)).mono ?_
    rintro e w4 ⟨ts, A4, c4, rfl, hnt, hrt, hb4⟩
    rw [← Hmv.out] at hnt
    obtain rfl : rs = ts := Num.unique (by omega) Hnr2.out hnt
    have s4 := hb4.size
    have hrr4 := hrr.below hb4 (Nat.le_refl _)
    have hrl4 := hrl3.below hb4 (Nat.le_refl _)
    have hb14 := hb13.trans (hb4.mono (by omega))
    have hlr := hrr.len32
    go_wp2_with fail
    refine (same_yes A3 A4 c3 c4 rs _ w4.heap.size hrr4.rd hrt.rd (by have := hrr.2.1; omega)).mono ?_
    rintro e w5 ⟨rfl, hdr5⟩
    have hb15 := hb14.trans (hdr5.below _)
    have hrl5 := hrl4.rd.dr hdr5
    have hz5 : w5.heap.size = w4.heap.size := by rw [hdr5.heap]
    clear hdr5 hnt
    go_wp2_with fail
    have hrx5 := (hr.below hb15).mono hb15.size
    refine (zero_any A c xs _ w5.heap.size hrx5 (by omega)).mono ?_
    rintro e w6 ⟨rfl, rfl⟩
    by_cases hm0 : m = 0
    · have hx0 : trimL xs = [] := trimL_nil_of_val (b := 4294967296) (by omega) (by rw [← Hmv.out]; exact hm0)
      have hel := Hel2.out
      have hnl := Hnl2.out
      rw [if_pos hm0] at hel
      rw [hm0, Nat.zero_mul] at hnl
      obtain rfl := (hnl.nil_iff (by omega)).2 (by split <;> rfl)
      subst hel
      rw [show decide (trimL xs = []) = true from by simp [hx0]]
      go_wp2_with fail
      refine (lives_any _).mono ?_
      rintro e w7 ⟨rfl, hb7⟩
      go_wp2
      go_ret
      exact ⟨rfl, hb15.trans (hb7.mono hb15.size)⟩
    · have hx0 : ¬ (trimL xs = []) := fun e => hm0 (by rw [Hmv.out, ← val_trim, e]; rfl)
      rw [show decide (trimL xs = []) = false from by simp [hx0]]
      have hel := Hel2.out
      rw [if_neg hm0] at hel
      have Hel3 := Lib.hid hel
      obtain ⟨q, hq⟩ : ∃ q, q = bitsOf m := ⟨_, rfl⟩
      have Hq := Lib.hid hq
      have hqb : q ≤ 2251799811200000 := by
        have h1 := val_lt _ xs hd
        rw [← Hmv.out, show (4294967296 : Nat) = 2 ^ 32 from rfl, ← Nat.pow_mul] at h1
        rw [hq]
        unfold bitsOf
        rw [if_neg hm0]
        have := (Nat.log2_lt hm0).2 h1
        omega
      clear hel hq hx0 hm0
      by_cases hkb : 67108864 < k
      · have hel := Hel3.out
        have hnl := Hnl2.out
        rw [if_pos (by omega)] at hel hnl
        subst hel
        obtain rfl := (hnl.nil_iff (by omega)).2 rfl
        have t1 : decide ((67108864 : Int) < (k : Int)) = true := by simp; omega
        go_wp2_with fail
        refine (lives_any _).mono ?_
        rintro e w7 ⟨rfl, hb7⟩
        go_wp2
        go_ret
        exact ⟨rfl, hb15.trans (hb7.mono hb15.size)⟩
      · have t1 : decide ((67108864 : Int) < (k : Int)) = false := by simp; omega
        go_wp2_with fail
        refine (rlen_any A c xs _ w5.heap.size hrx5 (Nat.le_refl _) hd (by omega)).mono ?_
        rintro e w7 ⟨rfl, hb7⟩
        rw [← Hmv.out, ← Hq.out]
        have hb17 := hb15.trans (hb7.mono hb15.size)
        by_cases hbig : 67108864 < (q : Int) + k
        · have hel := Hel3.out
          have hnl := Hnl2.out
          rw [← Hq.out, if_pos hbig] at hel hnl
          subst hel
          obtain rfl := (hnl.nil_iff (by omega)).2 rfl
          have t2 : decide ((67108864 : Int) - (k : Int) < (q : Int)) = true := by simp; omega
          go_wp2_with fail
          refine (lives_any _).mono ?_
          rintro e w8 ⟨rfl, hb8⟩
          go_wp2
          go_ret
          exact ⟨rfl, hb17.trans (hb8.mono hb17.size)⟩
        · have hel := Hel3.out
          have hnl := Hnl2.out
          rw [← Hq.out, if_neg hbig] at hel hnl
          subst hel
          have Hnl4 := Lib.hid hnl
          have t2 : decide ((67108864 : Int) - (k : Int) < (q : Int)) = false := by simp; omega
          have hrx7 := (hr.below hb17).mono hb17.size
          have s7 := hb7.size
          have hrl7 := hrl5.below (hb7.mono (by omega))
          obtain ⟨K, hK⟩ : ∃ K : Nat, K = 4194304 := ⟨_, rfl⟩
          have htl : (trimL xs).length ≤ K := by
            have h1 := Num.of_trim hd
            rw [← Hmv.out] at h1
            refine h1.len_le (by omega) ?_
            have h2 : m < 2 ^ (q + 1) := by
              by_cases h0 : m = 0
              · rw [h0]; exact Nat.two_pow_pos _
              · refine (Nat.log2_lt h0).1 ?_
                have := Hq.out
                unfold bitsOf at this
                rw [if_neg h0] at this
                omega
            rw [show (4294967296 : Nat) = 2 ^ 32 from rfl, ← Nat.pow_mul]
            exact Nat.lt_of_lt_of_le h2 (Nat.pow_le_pow_right (by omega) (by omega))
          have hll := hrl3.len32
          have hlm := hrl3.2.1
          clear hnl
          go_wp2_with fail
          refine (rleft_any A c xs k (k / 32) (k % 32) _ w7.heap.size hrx7 (Nat.le_refl _) hd hk32.out (by omega) (by omega) (by omega)).mono ?_
          rintro e w8 ⟨us, A8, c8, rfl, hnu, hru, hb8⟩
          rw [← Hmv.out] at hnu
          obtain rfl : ls = us := Num.unique (by omega) Hnl4.out hnu
          have hb18 := hb17.trans (hb8.mono hb17.size)
          go_wp2_with fail
          refine (same_yes A2 A8 c2 c8 ls _ w8.heap.size ((hrl7.below (hb8.mono (by omega))).mono (by have := hb8.size; omega)) hru.rd (by omega)).mono ?_
          rintro e w9 ⟨rfl, hdr9⟩
          have hb19 := hb18.trans (hdr9.below _)
          clear hdr9
          go_wp2_with fail
          refine (lives_any _).mono ?_
          rintro e w10 ⟨rfl, hb10⟩
          go_wp2
          go_ret
          exact ⟨rfl, hb19.trans (hb10.mono hb19.size)⟩
end Go.Proofs.Ytogkfpbapjjgfaa
