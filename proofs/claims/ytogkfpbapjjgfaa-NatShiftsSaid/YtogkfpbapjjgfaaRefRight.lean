/- The contract of the reference's Right. -/
import Derived.Test.YtogkfpbapjjgfaaRefLeft
namespace Go.Proofs.Ytogkfpbapjjgfaa
open Go.RowKit

theorem Rd.drop_ {w : World} {B : Nat} {b off : Nat} {vs : List Value} (h : Rd w B (some ⟨b, off, none⟩) vs) (k : Nat) : Rd w B (some ⟨b, off + k, none⟩) (vs.drop k) := fun hn => by
  obtain ⟨b', off', e, hb, hc⟩ := h (by rintro rfl; simp at hn)
  injection e with e
  injection e with e1 e2
  subst e1 e2
  refine ⟨b, off + k, rfl, hb, fun j v hv => ?_⟩
  rw [Nat.add_assoc]
  exact hc (k + j) v (by rw [← hv, List.getElem?_drop])

set_option maxHeartbeats 800000 in
theorem rright_any (A : Option Addr) (c : Nat) (xs : List Nat) (n d s : Nat) (w : World) (B : Nat) (hr : Rd w B A (u32s xs)) (hB : B ≤ w.heap.size) (hd : Dig 4294967296 xs) (hn : n = 32 * d + s) (hs : s < 32) (hm : xs.length ≤ 70368744170000) (hnb : n ≤ 9223372036854775807) :
    Calls Try.prog 21 #[.slice A xs.length c, .int .i64 (n : Int)] w fun e w' => ∃ zs A' c', e = .returned (.slice A' zs.length c') ∧ Num 4294967296 zs (val 4294967296 xs / 2 ^ n) ∧ Res w' w.heap.size 34 A' c' (u32s zs) ∧ Below w.heap.size w w' := by
  have hl := trimL_length_le xs
  have hn1 := Num.of_trim hd
  have q1 : (n : Int) / 32 = (d : Int) := by omega
  have q2 : (n : Int) % 32 = (s : Int) := by omega
  have Hn := Lib.hid hn
  have hdb : d ≤ 9223372036854775807 := by omega
  clear hn
  have h2s : 2 ^ s < 2 ^ 32 := Nat.pow_lt_pow_right (by omega) hs
  have e9 : ((2 : Int) ^ s % 4294967296) = ((2 ^ s : Nat) : Int) := by
    rw [show ((2 : Int) ^ s) = ((2 ^ s : Nat) : Int) from by simp]
    exact Int.emod_eq_of_lt (Int.natCast_nonneg _) (Int.ofNat_lt.2 h2s)
  obtain ⟨ts, hts⟩ : ∃ ts, ts = 2 ^ s := ⟨_, rfl⟩
  rw [← hts] at h2s e9
  have hts32 : ts < 4294967296 := by omega
  have htsp : 0 < ts := by rw [hts]; exact Nat.two_pow_pos s
  have Hts := Lib.hid hts
  clear hts h2s
  go_enter Try.func21, Try.ntmps21
  go_wp2_with fail
  refine (rnorm_any A c xs _ B hr hB (by omega)).mono ?_
  rintro e w1 ⟨A1, c1, rfl, hres, hb⟩
  obtain ⟨ps, hps⟩ : ∃ ps, ps = trimL xs := ⟨_, rfl⟩
  rw [← hps] at hn1 hl hres ⊢
  have hrd := hres.rd
  have hlc := hres.len32
  clear hps
  rcases Nat.lt_or_ge d ps.length with hlt | hge
  · have t0 : decide (ps.length ≤ d) = false := by simp; omega
    obtain ⟨b, off, rfl, hbB, hcell⟩ := hrd (by intro e; have := u32s_length ps; rw [e] at this; simp at this; omega)
    have hcd : ¬ (c1 = d) := by omega
    clear hcell
    go_wp2_with fail
    have hrd2 := (hrd.drop_ d).below ((Below.refl _ _).alloc (Nat.le_refl _) (.cells #[.int .u32 (ts : Int)] 34))
    have e1 : (u32s ps).drop d = u32s (ps.drop d) := by simp [u32s]
    rw [e1] at hrd2
    have hdl : Hid ((ps.drop d).length = ps.length - d) := List.length_drop ..
    have hvp : val 4294967296 [ts] = ts := by simp [val]
    rw [← hdl.out]
    refine (rdiv_any _ _ (c1 - d) 1 (ps.drop d) [ts] _ (w1.heap.size + 1) (hrd2.mono (by omega)) (rd_new rfl) (by simp) (hn1.1.drop_ d) (Dig.cons_ hts32 (Dig.nil_ _)) (by rw [hdl.out]; omega) (by simp) (by rw [hvp]; exact htsp)).mono ?_
    rintro e w2 ⟨qs, rs, A2, c2, A3, c3, rfl, hnq, hnr, hrq, hrr, hb2⟩
    go_wp2
    go_ret
    have hs1 := hb.size
    rw [size_alloc] at hrq hb2
    refine ⟨qs, A2, c2, rfl, ?_, hrq.mono (by omega), (hb.alloc hs1 _).trans (hb2.mono (by omega))⟩
    have ev : val 4294967296 (ps.drop d) / val 4294967296 [ts] = val 4294967296 xs / 2 ^ n := by
      rw [hvp, val_drop (by omega) ps d hn1.1, hn1.2.2, Hts.out, Hn.out, Nat.pow_add, Nat.pow_mul, show (2 : Nat) ^ 32 = 4294967296 from rfl, Nat.div_div_eq_div_mul]
    rw [← ev]; exact hnq
  · have t0 : decide (ps.length ≤ d) = true := by simpa using hge
    have hz : val 4294967296 xs / 2 ^ n = 0 := by
      refine Nat.div_eq_of_lt (Nat.lt_of_lt_of_le hn1.lt ?_)
      rw [show (4294967296 : Nat) = 2 ^ 32 from rfl, ← Nat.pow_mul]
      exact Nat.pow_le_pow_right (by omega) (by have := Hn.out; omega)
    have Hz := Lib.hid hz
    clear hz
    go_wp2
    go_ret
    exact ⟨[], _, 0, rfl, by rw [Hz.out]; exact Num.zero_ _, ⟨Nat.le_refl _, by omega, fun h => absurd rfl h⟩, hb.alloc hb.size _⟩
end Go.Proofs.Ytogkfpbapjjgfaa
