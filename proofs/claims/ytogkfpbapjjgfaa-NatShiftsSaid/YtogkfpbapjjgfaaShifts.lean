/- The contracts of Right and Left. Conditions: fewer limbs than any slice can have. -/
import Derived.Test.YtogkfpbapjjgfaaRightW
namespace Go.Proofs.Ytogkfpbapjjgfaa
open Go.RowKit

/-- What Right answers. -/
def RightOut (w w' : World) (m : Nat) (n : Int) (e : Ending) : Prop :=
  ∃ zs A' c', e = .returned (.tuple #[.slice A' zs.length c', .int .i64 (if n < 0 then 1 else 0)]) ∧ Num 4294967296 zs (if n < 0 then 0 else m / 2 ^ n.toNat) ∧ Res w' w.heap.size 34 A' c' (u32s zs) ∧ Below w.heap.size w w'
/-- What Left answers. -/
def LeftOut (w w' : World) (m : Nat) (n : Int) (e : Ending) : Prop :=
  ∃ zs A' c', e = .returned (.tuple #[.slice A' zs.length c', .int .i64 (if n < 0 then 1 else if m = 0 then 0 else if 67108864 < (bitsOf m : Int) + n then 4 else 0)]) ∧
    Num 4294967296 zs (if n < 0 then 0 else if 67108864 < (bitsOf m : Int) + n then 0 else m * 2 ^ n.toNat) ∧ Res w' w.heap.size 34 A' c' (u32s zs) ∧ Below w.heap.size w w'

set_option maxHeartbeats 400000 in
theorem right_any (A : Option Addr) (c : Nat) (xs : List Nat) (n : Int) (w : World) (B : Nat) (hr : Rd w B A (u32s xs)) (hB : B ≤ w.heap.size) (hd : Dig 4294967296 xs) (hc : xs.length ≤ c) (hm : xs.length ≤ 70368744177664) (hn : n ≤ 9223372036854775807) :
    Calls Try.prog 20 #[.slice A xs.length c, .int .i64 n] w fun e w' => RightOut w w' (val 4294967296 xs) n e := by
  have hmm : xs.length ≤ 281474976710656 := by omega
  rcases Int.lt_or_le n 0 with h0 | h0
  · go_enter Try.func20, Try.ntmps20
    go_wp2_with (go_at_call 27; (with_reducible refine (trim_any A c xs _ B hr hc hmm).mono ?_); rintro e w' ⟨rfl, rfl⟩)
    go_ret2
    exact ⟨[], none, 0, by rw [if_pos h0]; rfl, by rw [if_pos h0]; exact Num.zero_ _, Res.none_, Below.refl _ _⟩
  · obtain ⟨k, rfl⟩ := Int.eq_ofNat_of_zero_le h0
    have hl := trimL_length_le xs
    rcases Nat.lt_or_ge (k / 32) (trimL xs).length with hlt | hge
    · refine (right_walk A c xs (trimL xs) k (k / 32) (k % 32) w B hr hB hc rfl hd.trim_ (by omega) (by omega) hlt hm).mono ?_
      rintro e w' ⟨zs, A', c', rfl, hz, hres, hb⟩
      exact ⟨zs, A', c', by rw [if_neg (by omega)], by rw [if_neg (by omega), Int.toNat_natCast, ← val_trim]; exact hz, hres, hb⟩
    · have t0 : (trimL xs).length ≤ k / 32 := hge
      have hz : val 4294967296 xs / 2 ^ k = 0 := by
        rw [← val_trim]
        refine Nat.div_eq_of_lt (Nat.lt_of_lt_of_le (val_lt _ _ hd.trim_) ?_)
        rw [show (4294967296 : Nat) = 2 ^ 32 from rfl, ← Nat.pow_mul]
        exact Nat.pow_le_pow_right (by omega) (by omega)
      have Hz := Lib.hid hz
      clear hz
      have kb : k ≤ 9223372036854775807 := by omega
      have t1 : decide (((trimL xs).length : Int) ≤ (k : Int) / 32) = true := by simp; omega
      go_enter Try.func20, Try.ntmps20
      go_wp2_with (go_at_call 27; (with_reducible refine (trim_any A c xs _ B hr hc hmm).mono ?_); rintro e w' ⟨rfl, rfl⟩)
      go_ret2
      exact ⟨[], none, 0, by rw [if_neg (by omega)]; rfl, by rw [if_neg (by omega), Int.toNat_natCast, Hz.out]; exact Num.zero_ _, Res.none_, Below.refl _ _⟩

set_option maxHeartbeats 400000 in
theorem left_any (A : Option Addr) (c : Nat) (xs : List Nat) (n : Int) (w : World) (B : Nat) (hr : Rd w B A (u32s xs)) (hB : B ≤ w.heap.size) (hd : Dig 4294967296 xs) (hc : xs.length ≤ c) (hm : xs.length ≤ 70368740000000) (hn : n ≤ 9223372036854775807) :
    Calls Try.prog 19 #[.slice A xs.length c, .int .i64 n] w fun e w' => LeftOut w w' (val 4294967296 xs) n e := by
  have hmm : xs.length ≤ 281474976710656 := by omega
  have hl := trimL_length_le xs
  have hn1 := Num.of_trim hd
  have hrt : Rd w B A (u32s (trimL xs)) := by rw [u32s_trim]; exact hr.take _
  obtain ⟨m, hmv⟩ : ∃ m, m = val 4294967296 xs := ⟨_, rfl⟩
  rw [← hmv] at hn1
  rw [← hmv]
  obtain ⟨ps, hps⟩ : ∃ ps, ps = trimL xs := ⟨_, rfl⟩
  rw [← hps] at hn1 hrt hl
  have Hps := Lib.hid hps
  have hdp : Dig 4294967296 ps := hn1.1
  have Hvp : Hid (val 4294967296 ps = m) := hn1.2.2
  clear hps hmv
  rcases Int.lt_or_le n 0 with h0 | h0
  · go_enter Try.func19, Try.ntmps19
    go_wp2_with (go_at_call 27; (with_reducible refine (trim_any A c xs _ B hr hc hmm).mono ?_); rintro e w' ⟨rfl, rfl⟩)
    go_ret2
    exact ⟨[], none, 0, by rw [if_pos h0]; rfl, by rw [if_pos h0]; exact Num.zero_ _, Res.none_, Below.refl _ _⟩
  by_cases hp0 : ps = []
  · have hm0 : m = 0 := (hn1.nil_iff (by omega)).1 hp0
    have hl0 : (ps.length : Int) = 0 := by rw [hp0]; rfl
    have Hm0 := Lib.hid hm0
    clear hm0 hp0
    go_enter Try.func19, Try.ntmps19
    go_wp2_with (go_at_call 27; (with_reducible refine (trim_any A c xs _ B hr hc hmm).mono ?_); rintro e w' ⟨rfl, rfl⟩; rw [← Hps.out])
    go_ret2
    refine ⟨[], none, 0, ?_, ?_, Res.none_, Below.refl _ _⟩
    · rw [if_neg (by omega), if_pos Hm0.out]; rfl
    · rw [if_neg (by omega), Hm0.out, Nat.zero_mul]
      split <;> exact Num.zero_ _
  have hm0 : ¬ (m = 0) := fun e => hp0 ((hn1.nil_iff (by omega)).2 e)
  have t0 : ((ps.length : Int) == 0) = false := by
    have : ps.length ≠ 0 := fun e => hp0 (List.eq_nil_of_length_eq_zero e)
    simpa using this
  have Hm0 := Lib.hid hm0
  obtain ⟨q, hq⟩ : ∃ q, q = bitsOf m := ⟨_, rfl⟩
  have hqb : q ≤ 2251799811200000 := by
    have h1 := hn1.lt
    rw [show (4294967296 : Nat) = 2 ^ 32 from rfl, ← Nat.pow_mul] at h1
    rw [hq]
    unfold bitsOf
    rw [if_neg hm0]
    have := (Nat.log2_lt hm0).2 h1
    omega
  have Hq := Lib.hid hq
  have hlc : ps.length ≤ c := by omega
  have hlm : ps.length ≤ 70368744177664 := by omega
  clear hm0 hp0 hq
  obtain ⟨k, rfl⟩ := Int.eq_ofNat_of_zero_le h0
  rcases Nat.lt_or_ge 67108864 (q + k) with hbig | hok
  · by_cases hq2 : 67108864 < q
    · go_enter Try.func19, Try.ntmps19
      go_wp2_with (first
        | (go_at_call 27; (with_reducible refine (trim_any A c xs _ B hr hc hmm).mono ?_); rintro e w' ⟨rfl, rfl⟩; rw [← Hps.out])
        | (go_at_call 26; (with_reducible refine (len_any A c ps _ B hrt hdp hlc hlm).mono ?_); rintro e w' ⟨rfl, rfl⟩; rw [Hvp.out, ← Hq.out]))
      go_ret2
      refine ⟨[], none, 0, ?_, ?_, Res.none_, Below.refl _ _⟩
      · rw [if_neg (by omega), if_neg Hm0.out, ← Hq.out, if_pos (by omega)]; rfl
      · rw [if_neg (by omega), ← Hq.out, if_pos (by omega)]; exact Num.zero_ _
    · have t1 : decide (67108864 < (q : Int)) = false := by simp; omega
      have t2 : decide ((67108864 : Int) - (q : Int) < (k : Int)) = true := by simp; omega
      go_enter Try.func19, Try.ntmps19
      go_wp2_with (first
        | (go_at_call 27; (with_reducible refine (trim_any A c xs _ B hr hc hmm).mono ?_); rintro e w' ⟨rfl, rfl⟩; rw [← Hps.out])
        | (go_at_call 26; (with_reducible refine (len_any A c ps _ B hrt hdp hlc hlm).mono ?_); rintro e w' ⟨rfl, rfl⟩; rw [Hvp.out, ← Hq.out]))
      go_ret2
      refine ⟨[], none, 0, ?_, ?_, Res.none_, Below.refl _ _⟩
      · rw [if_neg (by omega), if_neg Hm0.out, ← Hq.out, if_pos (by omega)]; rfl
      · rw [if_neg (by omega), ← Hq.out, if_pos (by omega)]; exact Num.zero_ _
  · have t1 : decide (67108864 < (q : Int)) = false := by simp; omega
    have t2 : decide ((67108864 : Int) - (q : Int) < (k : Int)) = false := by simp; omega
    have hk : k = 32 * (k / 32) + k % 32 := by omega
    have hk2 : k % 32 < 32 := by omega
    have hk3 : k / 32 + ps.length + 1 ≤ 70368744177664 := by omega
    have Hk := Lib.hid hk
    clear hk
    go_enter Try.func19, Try.ntmps19
    go_wp2_with (first
      | (go_at_call 27; (with_reducible refine (trim_any A c xs _ B hr hc hmm).mono ?_); rintro e w' ⟨rfl, rfl⟩; rw [← Hps.out])
      | (go_at_call 26; (with_reducible refine (len_any A c ps _ B hrt hdp hlc hlm).mono ?_); rintro e w' ⟨rfl, rfl⟩; rw [Hvp.out, ← Hq.out])
      | (go_at_call 40; (with_reducible refine (shiftUp_any A c ps k (k / 32) (k % 32) _ B hrt hB hdp Hk.out hk2 hk3).mono ?_); rintro e w2 ⟨zs, A', c', rfl, hz, hres, hb⟩))
    go_ret2
    refine ⟨zs, A', c', ?_, ?_, hres, hb⟩
    · rw [if_neg (by omega), if_neg Hm0.out, ← Hq.out, if_neg (by omega)]; rfl
    · rw [if_neg (by omega), ← Hq.out, if_neg (by omega), Int.toNat_natCast, ← Hvp.out]; exact hz
end Go.Proofs.Ytogkfpbapjjgfaa
